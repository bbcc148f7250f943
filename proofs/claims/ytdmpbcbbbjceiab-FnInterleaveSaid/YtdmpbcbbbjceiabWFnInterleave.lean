/- The walk of the law FnInterleave. -/
import Derived.Test.YtdmpbcbbbjceiabDrawFrm
import Derived.Test.YtdmpbcbbbjceiabFrm3
import Derived.BigQuiet
namespace Go.Proofs.Ytdmpbcbbbjceiab
open Go.RowKit
set_option linter.unusedVariables false
set_option maxRecDepth 100000
theorem weaveS_size (z : ByteArray) (R C : Nat) : (weaveS z R C).size = z.size := strF_size _ _
theorem zb_weaveS {z : ByteArray} {R C i : Nat} (hi : i < z.size) : zb (weaveS z R C) i = zb z (i % R * C + i / R) := zb_strF (f := fun i => zb z (i % R * C + i / R)) hi (zb_lt _ _)
theorem weaveS_ok {z : ByteArray} {R C : Nat} (hn : z.size = R * C) (h : okB z z.size = true) : okB (weaveS z R C) (weaveS z R C).size = true := okB_of_zb _ fun i hi => by
  rw [weaveS_size] at hi
  rw [zb_weaveS hi]
  exact okB_zb z h _ (by rw [hn]; exact (weave_lt (by rw [← hn]; exact hi)).1)
theorem weave_twice {z : ByteArray} {R C : Nat} (hn : z.size = R * C) : weaveS (weaveS z R C) C R = z := by
  symm
  unfold weaveS
  rw [strF_size]
  apply strF_of _ _ _ rfl
  intro i hi
  have hi2 : i < C * R := by rw [Nat.mul_comm, ← hn]; exact hi
  have h1 := (weave_lt hi2).1
  rw [Nat.mul_comm C R, ← hn] at h1
  show zb z i = zb (strF z.size (fun i => zb z (i % R * C + i / R))) (i % C * R + i / C)
  rw [zb_strF (f := fun i => zb z (i % R * C + i / R)) h1 (zb_lt _ _)]
  show zb z i = zb z ((i % C * R + i / C) % R * C + (i % C * R + i / C) / R)
  rw [weave_back hi2]
theorem fit_mk {z : ByteArray} {R C : Nat} (hb : bitsB z = true) (h1 : 1 ≤ R) (h40 : R ≤ 40) (hn : z.size = R * C) : fitB z R = true ∧ z.size / R = C := by
  refine ⟨(fitB_iff z R).2 ⟨hb, by omega, by omega, by rw [Int.toNat_natCast, hn, Nat.mul_mod_right]⟩, ?_⟩
  rw [hn]; exact Nat.mul_div_cancel_left C (by omega)
theorem int_mk {z : ByteArray} {R C : Nat} (hb : bitsB z = true) (h1 : 1 ≤ R) (h40 : R ≤ 40) (hn : z.size = R * C) : intAns z R = (weaveS z R C, true) := by
  obtain ⟨h, e⟩ := fit_mk hb h1 h40 hn
  unfold intAns
  rw [h, Int.toNat_natCast, e]; rfl
theorem deint_mk {z : ByteArray} {R C : Nat} (hb : bitsB z = true) (h1 : 1 ≤ R) (h40 : R ≤ 40) (hn : z.size = R * C) : deintAns z R = (weaveS z C R, true) := by
  obtain ⟨h, e⟩ := fit_mk hb h1 h40 hn
  unfold deintAns
  rw [h, Int.toNat_natCast, e]; rfl
theorem bits_mk3 {z : ByteArray} (h : okB z z.size = true) (h6 : z.size ≤ 600) : bitsB z = true := by unfold bitsB; rw [h, decide_eq_true h6]; rfl
set_option maxHeartbeats 3200000 in
theorem fnInterleave_walk (a0 : Option Addr) (len0 cap0 : Nat) (z0 : List Int) (w : World) (w0 : IsBytes w a0 len0 cap0 z0) :
    Calls Try.prog 6 #[.slice a0 len0 cap0] w fun e w' => e = .returned (.bool true) ∧ Below w.heap.size w w' := by
  by_cases hl0 : 1048576 < len0
  · go_enter Try.func6, Try.ntmps6
    go_wp2
    go_ret
    exact ⟨rfl, Below.refl _ _⟩
  go_enter Try.func6, Try.ntmps6
  go_wp2_with fail
  refine (drawInt_any a0 len0 cap0 z0 _ w0).mono ?_
  rintro e W1 ⟨z, n, rfl, hz, hn, b1⟩
  clear w0
  have hI := fun w => iInter_any z n w (by omega)
  have hS := fun w => sInter_any z n w (by omega)
  have hJ := fun w => iDeint_any z n w (by omega)
  have hT := fun w => sDeint_any z n w (by omega)
  cases hf : fitB z n with
  | false =>
    have hA : intAns z n = noS := by unfold intAns; rw [hf]; rfl
    have hB : deintAns z n = noS := by unfold deintAns; rw [hf]; rfl
    rw [hA] at hI hS
    rw [hB] at hJ hT
    have HI := Lib.hid hI
    have HS := Lib.hid hS
    have HJ := Lib.hid hJ
    have HT := Lib.hid hT
    clear hI hS hJ hT hA hB hf
    go_wp2_with fail
    refine (HI.out _).mono ?_
    rintro e w' ⟨rfl, hB⟩
    have c1 := below_then b1 (Nat.le_refl _) hB
    clear hB b1
    go_wp2_with fail
    refine (HS.out _).mono ?_
    rintro e w' ⟨rfl, hB⟩
    have c2 := below_then c1 (Nat.le_refl _) hB
    clear hB c1
    go_wp2_with fail
    refine (HJ.out _).mono ?_
    rintro e w' ⟨rfl, hB⟩
    have c3 := below_then c2 (Nat.le_refl _) hB
    clear hB c2
    go_wp2_with fail
    refine (HT.out _).mono ?_
    rintro e w' ⟨rfl, hB⟩
    have c4 := below_then c3 (Nat.le_refl _) hB
    clear hB c3
    go_wp2
    go_ret
    exact ⟨rfl, c4⟩
  | true =>
    have hbz := ((fitB_iff z n).1 hf).1
    obtain ⟨R, C, rfl, r1, r40, hnz, hc, hz6, hC⟩ := fit_nat hf
    have ho := (bits_of2 hbz).1
    have hA : intAns z R = (weaveS z R C, true) := int_mk hbz r1 r40 hnz
    have hB : deintAns z R = (weaveS z C R, true) := deint_mk hbz r1 r40 hnz
    have hnz2 : z.size = C * R := by rw [hnz, Nat.mul_comm]
    have hD1 : deintAns (weaveS z R C) R = (z, true) := by
      rw [deint_mk (z := weaveS z R C) (bits_mk3 (weaveS_ok hnz ho) (by rw [weaveS_size]; exact hz6)) r1 r40 (by rw [weaveS_size]; exact hnz), weave_twice hnz]
    have hD2 : intAns (weaveS z C R) R = (z, true) := by
      rw [int_mk (z := weaveS z C R) (bits_mk3 (weaveS_ok hnz2 ho) (by rw [weaveS_size]; exact hz6)) r1 r40 (by rw [weaveS_size]; exact hnz), weave_twice hnz2]
    have hSame : 1 ≤ C → C ≤ 40 → intAns z C = (weaveS z C R, true) := fun h1 h2 => int_mk hbz h1 h2 hnz2
    have HX := Lib.hid (fun w => iInter_any z (C : Int) w (by omega))
    have HD1 := Lib.hid (fun w => iDeint_any (weaveS z R C) (R : Int) w (by rw [weaveS_size]; omega))
    have HD2 := Lib.hid (fun w => iInter_any (weaveS z C R) (R : Int) w (by rw [weaveS_size]; omega))
    rw [hD1] at HD1
    rw [hD2] at HD2
    rw [hA] at hI hS
    rw [hB] at hJ hT
    have HWZ := Lib.hid (fun i (hi : i < z.size) => zb_weaveS (z := z) (R := R) (C := C) hi)
    have hWs := weaveS_size z R C
    obtain ⟨P, hP⟩ : ∃ P, weaveS z R C = P := ⟨_, rfl⟩
    obtain ⟨Q, hQ⟩ : ∃ P, weaveS z C R = P := ⟨_, rfl⟩
    rw [hP] at hI hS HD1 HWZ hWs
    rw [hQ] at hJ hT HD2 hSame
    have HSM := Lib.hid hSame
    have HI := Lib.hid hI
    have HS := Lib.hid hS
    have HJ := Lib.hid hJ
    have HT := Lib.hid hT
    have v1 := div_value z.size R (by omega)
    rw [hc] at v1
    have p1 : (1 : Int) ≤ (R : Int) := by omega
    have p2 : ¬ (R : Int) = 0 := by omega
    have p3 : ((R : Int) == 0) = false := beq_eq_false_iff_ne.2 (by omega)
    have p4 : ¬ R = 0 := by omega
    have HN := Lib.hid hnz
    clear hI hS hJ hT hA hB hf hbz ho hnz hnz2 hD1 hD2 hSame hP hQ hc
    go_wp2_with fail
    refine (HI.out _).mono ?_
    rintro e w' ⟨rfl, hB⟩
    have c1 := below_then b1 (Nat.le_refl _) hB
    clear hB b1
    go_wp2_with fail
    refine (HS.out _).mono ?_
    rintro e w' ⟨rfl, hB⟩
    have c2 := below_then c1 (Nat.le_refl _) hB
    clear hB c1
    go_wp2_with fail
    refine (HJ.out _).mono ?_
    rintro e w' ⟨rfl, hB⟩
    have c3 := below_then c2 (Nat.le_refl _) hB
    clear hB c2
    go_wp2_with fail
    refine (HT.out _).mono ?_
    rintro e w' ⟨rfl, hB⟩
    have c4 := below_then c3 (Nat.le_refl _) hB
    clear hB c3
    go_wp2_with fail
    refine (HD1.out _).mono ?_
    rintro e w' ⟨rfl, hB⟩
    have c5 := below_then c4 (Nat.le_refl _) hB
    clear hB c4
    go_wp2_with fail
    refine (HD2.out _).mono ?_
    rintro e w' ⟨rfl, hB⟩
    have c6 := below_then c5 (Nat.le_refl _) hB
    clear hB c5
    go_wp2
    clear v1
    go_loopw [18] (fun i wr => ∃ k : Nat, k ≤ z.size ∧ i = .int .i64 k ∧ Below w.heap.size w wr) (fun i _ => z.size - (intOf i).toNat)
    case atStart => exact ⟨0, by omega, rfl, c6⟩
    case round =>
      clear c6
      obtain ⟨k, hk, rfl, rb⟩ := hrel
      by_cases hlt : k < z.size
      · have hJ := weave_lt (R := R) (C := C) (i := k) (by rw [← HN.out]; exact hlt)
        rw [← HN.out] at hJ
        obtain ⟨hJ1, hJ2, hJ3⟩ := hJ
        have hcmp := HWZ.out k hlt
        have v2 := mod_value k R
        have v3 := div_value k R (by omega)
        have v4 : ((k % R : Nat) : Int) * (C : Int) = ((k % R * C : Nat) : Int) := (Int.natCast_mul _ _).symm
        obtain ⟨M, hM⟩ : ∃ M, k % R = M := ⟨_, rfl⟩
        obtain ⟨D, hD⟩ : ∃ Q, k / R = Q := ⟨_, rfl⟩
        rw [hM] at v2 v4 hJ1 hJ3 hcmp
        rw [hD] at v3 hJ1 hJ2 hcmp
        obtain ⟨F, hF⟩ : ∃ P, M * C = P := ⟨_, rfl⟩
        rw [hF] at v4 hJ1 hcmp
        obtain ⟨J, hJJ⟩ : ∃ J, F + D = J := ⟨_, rfl⟩
        rw [hJJ] at hJ1 hcmp
        have hkP : k < P.size := by omega
        rw [← zb_at P k hkP, ← zb_at z J hJ1] at hcmp
        have t1 : ((P[k].toNat : Int) != (z[J].toNat : Int)) = false := by rw [hcmp]; simp
        have t2 : (P[k].toNat : Int) = (z[J].toNat : Int) := by rw [hcmp]
        have v6 : IntKind.i64.wrap ((M : Int) * (C : Int)) = (F : Int) := by rw [v4]; exact IntWalk.i64_in _ (by omega)
        have v7 : IntKind.i64.wrap ((F : Int) + (D : Int)) = (J : Int) := by rw [show (F : Int) + (D : Int) = (J : Int) by omega]; exact IntWalk.i64_in _ (by omega)
        have i0 : (0 : Int) ≤ (J : Int) := by omega
        have i1 : (J : Int) < (z.size : Int) := by omega
        have i2 : (0 : Int) ≤ (k : Int) := by omega
        have i3 : (k : Int) < (P.size : Int) := by omega
        clear hM hD hF hJJ v4 hJ2 hJ3 hcmp
        go_wp2_with fail
        go_quiet (fail)
        have rb2 := below_drewN rb nq
        clear v2 v3 v6 v7 t1 rb
        go_wp2
        go_roundw
        case rel => exact ⟨k + 1, by omega, by go_num, rb2⟩
        case measure => simp [intOf]; omega
      · obtain rfl : k = z.size := by omega
        by_cases hc : 0 < C ∧ C ≤ 40
        · have hx := HX.out
          rw [HSM.out hc.1 hc.2] at hx
          have i0 : (0 : Int) < (C : Int) := by omega
          have i1 : (C : Int) ≤ 40 := by omega
          have HXX := Lib.hid hx
          clear hx hc
          go_wp2_with fail
          refine (HXX.out _).mono ?_
          rintro e w' ⟨rfl, hB⟩
          have c7 := below_then rb (Nat.le_refl _) hB
          clear hB rb
          go_wp2
          go_ret
          exact ⟨rfl, c7⟩
        · by_cases h0 : 0 < C
          · have i0 : (0 : Int) < (C : Int) := by omega
            have i1 : ¬ (C : Int) ≤ 40 := by omega
            clear hc
            go_wp2
            go_ret
            exact ⟨rfl, rb⟩
          · have i0 : ¬ (0 : Int) < (C : Int) := by omega
            clear hc
            go_wp2
            go_ret
            exact ⟨rfl, rb⟩
end Go.Proofs.Ytdmpbcbbbjceiab
