/- The walk of the law FnSpread. -/
import Derived.Test.YtlcnlhephhbhcaaDrawUser
import Derived.Test.YtlcnlhephhbhcaaSeqAlg
import Derived.Test.YtlcnlhephhbhcaaSsUser
namespace Go.Proofs.Ytlcnlhephhbhcaa
open Go.RowKit
set_option linter.unusedVariables false
set_option maxHeartbeats 3200000 in
set_option maxRecDepth 100000 in
theorem fnSpread_walk (a0 : Option Addr) (len0 cap0 : Nat) (z0 : List Int) (w : World) (w0 : IsBytes w a0 len0 cap0 z0) :
    Calls Try.prog 16 #[.slice a0 len0 cap0] w fun e w' => e = .returned (.bool true) ∧ Below w.heap.size w w' := by
  by_cases hl0 : 1048576 < len0
  · go_enter Try.func16, Try.ntmps16
    go_wp2
    go_ret
    exact ⟨rfl, Below.refl _ _⟩
  go_enter Try.func16, Try.ntmps16
  go_wp2_with fail
  refine (drawSpread_any a0 len0 cap0 z0 _ w0).mono ?_
  rintro e W1 ⟨p, q, rfl, hp, hq, bc⟩
  clear w0
  have hi := fun w => iSpread_any p q w (by omega) (by omega)
  have hs := fun w => sSpread_any p q w (by omega) (by omega)
  cases hv : spOK p q with
  | false =>
    rw [hv, show spN p q = 0 by unfold spN; rw [hv]; rfl] at hi hs
    clear hv
    have HI := Lib.hid hi
    have HS := Lib.hid hs
    clear hi hs
    go_wp2_with fail
    refine (HI.out _).mono ?_
    rintro e w101 ⟨v1, rfl, O103, hb102⟩
    have b104 := below_then bc (Nat.le_refl _) hb102
    clear bc
    have bc := b104
    clear b104 hb102
    go_wp2_with fail
    refine (HS.out _).mono ?_
    rintro e w105 ⟨v2, rfl, O107, hb106⟩
    have O108 := O103.below hb106
    clear O103
    have b109 := below_then bc (Nat.le_refl _) hb106
    clear bc
    have bc := b109
    clear b109 hb106
    go_wp2_with fail
    refine (ssInts_same _ _ _ _ 0 _ _ O108 O107 (by omega)).mono ?_
    rintro e w' ⟨rfl, m110, rfl⟩
    have O112 := O108.drewN m110
    clear O108
    have O113 := O107.drewN m110
    clear O107
    have bd := below_drewN bc m110
    clear bc
    have bc := bd
    clear bd
    obtain ⟨w111, hW⟩ : ∃ W, w105.drewN m110 = W := ⟨_, rfl⟩
    rw [hW] at O112 O113 bc ⊢
    clear hW
    go_wp2_with fail
    refine (ssInts_same _ _ _ _ 0 _ _ O112 O113 (by omega)).mono ?_
    rintro e w' ⟨rfl, m114, rfl⟩
    have O116 := O112.drewN m114
    clear O112
    have O117 := O113.drewN m114
    clear O113
    have bd := below_drewN bc m114
    clear bc
    have bc := bd
    clear bd
    obtain ⟨w115, hW⟩ : ∃ W, w111.drewN m114 = W := ⟨_, rfl⟩
    rw [hW] at O116 O117 bc ⊢
    clear hW
    go_wp2
    go_ret
    exact ⟨rfl, bc⟩
  | true =>
    rw [hv, show spN p q = p.size * q.size by unfold spN; rw [hv]; rfl] at hi hs
    obtain ⟨h1, h2, h3⟩ := (spOK_iff p q).1 hv
    obtain ⟨p1, p2⟩ := (bits_iff p).1 h1
    obtain ⟨q1, q2, q3⟩ := (seqB_iff q).1 h2
    have hsg := sp_sig p1 q1 h3
    have hrc : rcB (p.size * q.size) (spF p q q.size) q 0 (p.size : Int) = true := (rcB_iff _ _ _ _ _).2 ⟨hsg, h2, ⟨by omega, by omega⟩, by omega, by omega⟩
    have hD := fun u w h => iDesp_any u (p.size * q.size) (spF p q q.size) q (p.size : Int) w h (by omega) (by omega)
    rw [hrc, show dsN (p.size * q.size) (spF p q q.size) q (p.size : Int) = p.size by unfold dsN; rw [hrc]; exact Int.toNat_natCast _] at hD
    have hU := fun u w h => ssUser_any u (p.size * q.size) (spF p q q.size) q 0 (p.size : Int) w h (by omega) (by omega)
    rw [show (rvAns (p.size * q.size) (spF p q q.size) q 0 (p.size : Int)).1 = p by unfold rvAns; rw [hrc]; rw [Int.toNat_natCast, Int.toNat_zero]; exact sg_spread p q p1 q1 q2] at hU
    have HCO := Lib.hid (fun i (hi : i < p.size) => co_spread p q q1 i hi)
    have HZ := Lib.hid (okB_zb p p1)
    obtain ⟨G, hG⟩ : ∃ G, coL (p.size * q.size) (spF p q q.size) q 0 = G := ⟨_, rfl⟩
    rw [hG] at hD HCO
    obtain ⟨P, hP⟩ : ∃ P, p.size * q.size = P := ⟨_, rfl⟩
    have HPI : Hid ((p.size : Int) * (q.size : Int) = (P : Int)) := Lib.hid (by rw [← hP, Int.natCast_mul])
    rw [hP] at hi hs hD hU h3
    obtain ⟨F, hF⟩ : ∃ F, spF p q q.size = F := ⟨_, rfl⟩
    rw [hF] at hi hs hD hU
    clear hG hP hF hv h1 h2 hsg hrc p1 q1
    have HI := Lib.hid hi
    have HS := Lib.hid hs
    have HD := Lib.hid hD
    have HU := Lib.hid hU
    clear hi hs hD hU
    go_wp2_with fail
    refine (HI.out _).mono ?_
    rintro e w101 ⟨v1, rfl, O103, hb102⟩
    have b104 := below_then bc (Nat.le_refl _) hb102
    clear bc
    have bc := b104
    clear b104 hb102
    obtain ⟨sa105, sc105, rfl, -⟩ := O103.form
    go_wp2_with fail
    refine (HS.out _).mono ?_
    rintro e w106 ⟨v2, rfl, O108, hb107⟩
    have O109 := O103.below hb107
    clear O103
    have b110 := below_then bc (Nat.le_refl _) hb107
    clear bc
    have bc := b110
    clear b110 hb107
    go_wp2_with fail
    refine (ssInts_same _ _ _ _ P _ _ O109 O108 (by omega)).mono ?_
    rintro e w' ⟨rfl, m111, rfl⟩
    have O113 := O109.drewN m111
    clear O109
    have O114 := O108.drewN m111
    clear O108
    have bd := below_drewN bc m111
    clear bc
    have bc := bd
    clear bd
    obtain ⟨w112, hW⟩ : ∃ W, w106.drewN m111 = W := ⟨_, rfl⟩
    rw [hW] at O113 O114 bc ⊢
    clear hW
    clear O114
    go_wp2_with fail
    refine (HD.out _ _ O113.intsC).mono ?_
    rintro e w115 ⟨v3, rfl, O117, hb116⟩
    have O118 := O113.below hb116
    clear O113
    have b119 := below_then bc (Nat.le_refl _) hb116
    clear bc
    have bc := b119
    clear b119 hb116
    obtain ⟨sa120, sc120, rfl, -⟩ := O117.form
    go_wp2_with fail
    have C1 := Lib.hid O117.ints.cells
    go_loopw [11] (fun i wr => ∃ j m : Nat, j ≤ p.size ∧ i = .int .i64 j ∧ wr = w115.drewN m) (fun i _ => p.size - (intOf i).toNat)
    case atStart => exact ⟨0, 0, by omega, rfl, rfl⟩
    case round =>
      obtain ⟨j, m, hj, rfl, rfl⟩ := hrel
      by_cases hlt : j < p.size
      · skip
        have i0 : (0 : Int) ≤ (j : Int) := by omega
        have i1 : (j : Int) < (p.size : Int) := by omega
        obtain ⟨x1, rfl, -, c1⟩ := C1.out j hlt
        have c1 : (w115.drewN m).cell? (x1.add j) = some (.int .i64 (G j)) := c1
        rw [HCO.out j hlt] at c1
        have hb := HZ.out j hlt
        rw [← zb_at p j hlt] at hb
        have hch : chF p j = 1 - 2 * ((p[j].toNat : Int) - 48) := by unfold chF; rw [zb_at p j hlt]
        rw [hch] at c1
        clear hch
        obtain ⟨W, hW⟩ : ∃ W, w115.drewN m = W := ⟨_, rfl⟩
        rw [hW] at c1 ⊢
        have HW := Lib.hid hW
        clear hW
        rcases hb with hz | hz
        · skip
          rw [hz] at c1
          rw [show (1 - 2 * (((48 : Nat) : Int) - 48)) * (q.size : Int) = (q.size : Int) by omega] at c1
          have t1 : decide ((q.size : Int) < 0) = false := by simp only [decide_eq_false_iff_not]; omega
          go_wp2_with fail
          go_quiet (fail)
          clear c1
          go_wp2
          go_roundw
          case rel => exact ⟨j + 1, m + nq, by omega, by go_num, by rw [← HW.out, World.drewN_drewN]⟩
          case measure => simp [intOf]; omega
        · skip
          rw [hz] at c1
          rw [show (1 - 2 * (((49 : Nat) : Int) - 48)) * (q.size : Int) = -(q.size : Int) by omega] at c1
          have t1 : decide (-(q.size : Int) < 0) = true := by simp only [decide_eq_true_eq]; omega
          have t2 : (-(q.size : Int) == (q.size : Int)) = false := by rw [beq_eq_false_iff_ne]; omega
          have t3 : (-(q.size : Int) != (q.size : Int)) = true := by rw [bne_iff_ne]; omega
          have hng : IntKind.i64.wrap (-(q.size : Int)) = -(q.size : Int) := IntWalk.i64_in _ (by omega)
          have t4 : decide (0 < q.size) = true := by simp only [decide_eq_true_eq]; omega
          go_wp2_with fail
          go_quiet (fail)
          clear c1
          go_wp2
          go_roundw
          case rel => exact ⟨j + 1, m + nq, by omega, by go_num, by rw [← HW.out, World.drewN_drewN]⟩
          case measure => simp [intOf]; omega
      · skip
        obtain rfl : p.size = j := by omega
        have O321 := O118.drewN m
        clear O118
        have O322 := O117.drewN m
        clear O117
        have bd := below_drewN bc m
        clear bc
        have bc := bd
        clear bd
        obtain ⟨w323, hW⟩ : ∃ W, w115.drewN m = W := ⟨_, rfl⟩
        rw [hW] at O321 O322 bc ⊢
        clear hW C1
        go_wp2_with fail
        refine (HU.out _ _ O321.intsC).mono ?_
        rintro e w324 ⟨rfl, hb325⟩
        have O326 := O321.below hb325
        clear O321
        have O327 := O322.below hb325
        clear O322
        have b328 := below_then bc (Nat.le_refl _) hb325
        clear bc
        have bc := b328
        clear b328 hb325
        have hPI := HPI.out
        have hP0 : (P : Int) ≤ 3000 := by omega
        go_wp2
        go_ret
        exact ⟨rfl, bc⟩
end Go.Proofs.Ytlcnlhephhbhcaa
