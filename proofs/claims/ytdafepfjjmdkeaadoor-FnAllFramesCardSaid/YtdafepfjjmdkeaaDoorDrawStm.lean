/- Bits with frames, drawn. -/
import Derived.Test.YtdafepfjjmdkeaaDoorDrawHarm
import Derived.Test.YtdafepfjjmdkeaaDoorFrm7
import Derived.Test.YtdafepfjjmdkeaaDoorInvBig
namespace Go.Proofs.YtdafepfjjmdkeaaDoor
open Go.RowKit
set_option linter.unusedVariables false
set_option maxRecDepth 100000
/-- Bits with frames: not more than 170. -/
def StmPost (b p : Nat) (zs : List Int) (w : World) (e : Ending) (w' : World) : Prop :=
  ∃ (y : ByteArray) (q : Nat), e = .returned (.string y) ∧ okB y y.size = true ∧ y.size ≤ 170 ∧ q ≤ p + 2000 ∧ RdAt w' b q zs ∧ w.grownBy w' (some b)
theorem invS_two {y : ByteArray} (h : okB y y.size = true) : okB (invS y) (invS y).size = true ∧ (invS y).size = y.size := ⟨invS_bits h, invS_size y⟩
set_option maxHeartbeats 1600000 in
theorem l6Stream_any (b p : Nat) (zs : List Int) (w : World) (hr : RdAt w b p zs) (hp : p ≤ 700000) :
    Calls Tryd.prog 39 #[.pointer (some ⟨b, 0, none⟩)] w (StmPost b p zs w) := by
  have hbl := hr.1
  go_enter Tryd.func39, Tryd.ntmps39
  go_wp2_with fail
  refine (l1String_bits b p 9 zs _ hr (by omega) (by omega)).mono ?_
  rintro e w1 ⟨z0, q0, rfl, ho0, hs0, hq0, hr1, hg1⟩
  have HO := Lib.hid ho0
  clear hr ho0
  go_wp2_with fail
  refine (pick_any b q0 4 zs _ hr1 (by omega) (by omega) (by omega)).mono ?_
  rintro e w2 ⟨k, hk, rfl, hr2, hg2⟩
  have hg := hg1.trans hg2
  clear hr1 hg1 hg2
  go_wp2
  go_loopw [4, 3] (fun n s wr => ∃ (j q : Nat) (y : ByteArray), j ≤ 3 ∧ n = .int .i64 j ∧ s = .string y ∧ Hid (okB y y.size = true) ∧ y.size + 50 * j ≤ 160 ∧ q + 300 * j ≤ p + 1200 ∧ RdAt wr b q zs ∧ w.grownBy wr (some b)) (fun n _ _ => (intOf n).toNat)
  case atStart => exact ⟨k, q0 + 1, z0, by omega, rfl, rfl, HO, by omega, by omega, hr2, hg⟩
  case round =>
    clear hr2 hg HO
    obtain ⟨j, q, y, hj, rfl, rfl, rO, rN, rq, rR, rg⟩ := hrel
    by_cases h0 : 0 < j
    · have j0 : (0 : Int) < (j : Int) := by omega
      go_wp2_with fail
      refine (l1String_bits b q 20 zs _ rR (by omega) (by omega)).mono ?_
      rintro e w2 ⟨z1, q1, rfl, ho1, hs1, hq1, hr2, hg2⟩
      have HF := Lib.hid (fun w => sFrm_any z1 w ho1 (by omega))
      have hfs := frmS_size z1
      have HFO := Lib.hid (frmS_ok ho1)
      obtain ⟨F, hF⟩ : ∃ F, frmS z1 = F := ⟨_, rfl⟩
      rw [hF] at HF hfs HFO
      clear hF ho1 rR
      go_wp2_with fail
      refine (HF.out _).mono ?_
      rintro e w3 ⟨rfl, hB⟩
      have hr3 := hr2.below hB
      have hg3 := rg.trans (hg2.trans (grow hB (some b)))
      clear hr2 hg2 hB rg
      go_wp2_with fail
      refine (l1String_bits b q1 6 zs _ hr3 (by omega) (by omega)).mono ?_
      rintro e w4 ⟨z2, q2, rfl, ho2, hs2, hq2, hr4, hg4⟩
      have hg := hg3.trans hg4
      have a1 : y.size + F.size ≤ 9223372036854775807 := by omega
      have a2 := ByteArray.size_append (a := y) (b := F)
      have a3 : (y ++ F).size + z2.size ≤ 9223372036854775807 := by omega
      have HX := Lib.hid (ok_append (ok_append rO.out HFO.out) ho2)
      have hxs : ((y ++ F) ++ z2).size + 50 * (j - 1) ≤ 160 := by rw [ByteArray.size_append, a2]; omega
      clear ho2 hr3 hg3 hg4 HFO rO
      go_wp2
      go_roundw
      case rel => exact ⟨j - 1, q2, _, by omega, by rw [show ((j - 1 : Nat) : Int) = (j : Int) - 1 by omega], rfl, HX, hxs, by omega, hr4, hg⟩
      case measure => simp [intOf]; omega
    · have j0 : ¬ (0 : Int) < (j : Int) := by omega
      have hys : y.size ≤ 160 := by omega
      clear rN
      go_wp2_with fail
      refine (pick_any b q 4 zs _ rR (by omega) (by omega) (by omega)).mono ?_
      rintro e w2 ⟨k1, hk1, rfl, hr2, hg2⟩
      have hg := rg.trans hg2
      clear rR hg2 rg
      by_cases k0 : k1 = 0
      · subst k0
        have HH := Lib.hid (fun w (hr : RdAt w b (q + 1) zs) => l6Harm_any b (q + 1) zs y w hr (by omega) rO.out (by omega))
        obtain ⟨M, hM⟩ : ∃ M, y.size = M := ⟨_, rfl⟩
        rw [hM] at HH hys
        clear hM rO
        go_wp2_with fail
        refine (HH.out _ hr2).mono ?_
        rintro e w4 ⟨x, qx, rfl, hox, hsx, hqx, hr4, hg4⟩
        have rO := Lib.hid hox
        have hr9 := hr4
        have hg9 := hg.trans hg4
        clear hr2 hg hg4 hr4 hox HH
        have hr2 := hr9
        have hg := hg9
        clear hr9 hg9
        go_wp2_with fail
        refine (pick_any b qx 5 zs _ hr2 (by omega) (by omega) (by omega)).mono ?_
        rintro e w3 ⟨k2, hk2, rfl, hr3, hg3⟩
        have hgg := hg.trans hg3
        clear hr2 hg3 hg
        by_cases l0 : k2 = 0
        · subst l0
          have HI := Lib.hid (fun w => l2Invert_big x w rO.out (by omega))
          have hio := invS_two rO.out
          obtain ⟨Y, hY⟩ : ∃ Y, invS x = Y := ⟨_, rfl⟩
          rw [hY] at HI hio
          clear hY
          go_wp2_with fail
          refine (HI.out _).mono ?_
          rintro e w4 ⟨rfl, hB⟩
          have hr4 := hr3.below hB
          have hg4 := hgg.trans (grow hB (some b))
          go_wp2
          go_ret
          exact ⟨Y, _, rfl, hio.1, by omega, by omega, hr4, hg4⟩
        · have l1 : ((k2 : Int) == 0) = false := by rw [beq_eq_false_iff_ne]; omega
          clear l0
          go_wp2
          go_ret
          exact ⟨x, _, rfl, rO.out, by omega, by omega, hr3, hgg⟩
      · have k2 : ((k1 : Int) == 0) = false := by rw [beq_eq_false_iff_ne]; omega
        clear k0
        go_wp2_with fail
        refine (pick_any b (q + 1) 5 zs _ hr2 (by omega) (by omega) (by omega)).mono ?_
        rintro e w3 ⟨k2, hk2, rfl, hr3, hg3⟩
        have hgg := hg.trans hg3
        clear hr2 hg3 hg
        by_cases l0 : k2 = 0
        · subst l0
          have HI := Lib.hid (fun w => l2Invert_big y w rO.out (by omega))
          have hio := invS_two rO.out
          obtain ⟨Y, hY⟩ : ∃ Y, invS y = Y := ⟨_, rfl⟩
          rw [hY] at HI hio
          clear hY
          go_wp2_with fail
          refine (HI.out _).mono ?_
          rintro e w4 ⟨rfl, hB⟩
          have hr4 := hr3.below hB
          have hg4 := hgg.trans (grow hB (some b))
          go_wp2
          go_ret
          exact ⟨Y, _, rfl, hio.1, by omega, by omega, hr4, hg4⟩
        · have l1 : ((k2 : Int) == 0) = false := by rw [beq_eq_false_iff_ne]; omega
          clear l0
          go_wp2
          go_ret
          exact ⟨y, _, rfl, rO.out, by omega, by omega, hr3, hgg⟩
end Go.Proofs.YtdafepfjjmdkeaaDoor
