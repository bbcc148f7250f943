/- The walk of the law FnMajority. -/
import Derived.Test.YtkpiloefmhhclaaDrawFrm
import Derived.Test.YtkpiloefmhhclaaMajMath
namespace Go.Proofs.Ytkpiloefmhhclaa
open Go.RowKit
set_option linter.unusedVariables false
set_option maxRecDepth 100000
theorem mkB4 {z : ByteArray} (h : okB z z.size = true) (h6 : z.size ≤ 600) : bitsB z = true := by unfold bitsB; rw [h, decide_eq_true h6]; rfl
set_option maxHeartbeats 1600000 in
theorem l6Count_any (b p : Nat) (zs : List Int) (w : World) (hr : RdAt w b p zs) (hp : p ≤ 800000) :
    Calls Try.prog 42 #[.pointer (some ⟨b, 0, none⟩)] w fun e w' => ∃ (C : Int) (q : Nat), e = .returned (.int .i64 C) ∧ FitsI C ∧ q ≤ p + 10 ∧ RdAt w' b q zs ∧ w.grownBy w' (some b) := by
  have hbl := hr.1
  go_enter Try.func42, Try.ntmps42
  go_wp2_with fail
  refine (pick_any b p 12 zs _ hr (by omega) (by omega) (by omega)).mono ?_
  rintro e w1 ⟨k, hk, rfl, hr1, hg1⟩
  rcases Nat.eq_zero_or_pos k with e0 | e0
  · subst e0
    go_wp2_with fail
    refine (num_any b (p + 1) zs _ w1.heap.size 4 [0, 2, 11, -1] (hr1.alloc _) (IntsAt.new w1 _ [0, 2, 11, -1]) rfl hr1.1 (by omega) (by omega) (by omega)).mono ?_
    rintro e w2 ⟨v, hv, rfl, hr2, hg2⟩
    have fK : FitsI v := by
      simp only [List.mem_cons, List.not_mem_nil, or_false] at hv
      unfold FitsI
      omega
    have hg := (hg1.trans (World.grownBy_alloc w1 _ (some b))).trans hg2
    go_wp2
    go_ret
    exact ⟨v, _, rfl, fK, by omega, hr2, hg⟩
  · have t2 : ((k : Int) == 0) = false := beq_eq_false_iff_ne.2 (by omega)
    go_wp2_with fail
    refine (num_any b (p + 1) zs _ w1.heap.size 5 [3, 5, 1, 7, 9] (hr1.alloc _) (IntsAt.new w1 _ [3, 5, 1, 7, 9]) rfl hr1.1 (by omega) (by omega) (by omega)).mono ?_
    rintro e w2 ⟨v, hv, rfl, hr2, hg2⟩
    have fK : FitsI v := by
      simp only [List.mem_cons, List.not_mem_nil, or_false] at hv
      unfold FitsI
      omega
    have hg := (hg1.trans (World.grownBy_alloc w1 _ (some b))).trans hg2
    go_wp2
    go_ret
    exact ⟨v, _, rfl, fK, by omega, hr2, hg⟩
set_option maxHeartbeats 1600000 in
theorem drawRep_any (a : Option Addr) (len cap : Nat) (zs : List Int) (w : World) (h : IsBytes w a len cap zs) :
    Calls Try.prog 15 #[.slice a len cap] w (DrawBitsInt w) := by
  have hM := fun w => l9Many_any ⟨#[48, 49]⟩ 100 w (by show 2 * 100 ≤ _; omega) (by omega)
  have hMs : (many ⟨#[48, 49]⟩ 100).size ≤ 700 := by rw [many_size]; show 2 * 100 ≤ 700; omega
  obtain ⟨M, hMM⟩ : ∃ M, many ⟨#[48, 49]⟩ 100 = M := ⟨_, rfl⟩
  rw [hMM] at hM hMs
  have HM := Lib.hid hM
  have HMS := Lib.hid hMs
  clear hM hMs hMM
  go_enter Try.func15, Try.ntmps15
  go_wp2_with fail
  refine (open_any a len cap zs _ h).mono ?_
  rintro e w1 ⟨b, ys, rfl, hr, hb, hlb⟩
  go_wp2_with fail
  refine (l6Count_any b 0 ys _ hr (by omega)).mono ?_
  rintro e w2 ⟨n, q, rfl, fn, hq, hr2, hg2⟩
  have b2 := below_grown hb (Nat.le_refl _) hg2 hlb
  clear hr hb hg2
  go_wp2_with fail
  refine (pick_any b q 24 ys _ hr2 (by omega) (by omega) (by omega)).mono ?_
  rintro e w3 ⟨k, hk, rfl, hr3, hg3⟩
  have b3 := below_grown b2 (Nat.le_refl _) hg3 hlb
  clear hr2 b2 hg3
  rcases Nat.eq_zero_or_pos k with e0 | e0
  · subst e0
    go_wp2_with fail
    refine (HM.out _).mono ?_
    rintro e w' ⟨rfl, rfl⟩
    go_wp2
    go_ret2
    exact ⟨M, n, rfl, HMS.out, fn, b3⟩
  · have t2 : ((k : Int) == 0) = false := beq_eq_false_iff_ne.2 (by omega)
    go_wp2_with fail
    refine (l1String_any b _ 20 ys _ hr3 (by omega) (by omega)).mono ?_
    rintro e w4 ⟨z, q4, rfl, hz, hq4, hr4, hg4⟩
    have b4 := below_grown b3 (Nat.le_refl _) hg4 hlb
    clear hr3 b3 hg4
    go_wp2_with fail
    refine (l6Wild_any b q4 ys z _ hr4 (by omega) (by omega)).mono ?_
    rintro e w5 ⟨y, q5, rfl, hy, hq5, hr5, hg5⟩
    have b5 := below_grown b4 (Nat.le_refl _) hg5 hlb
    clear hr4 b4 hg5
    go_wp2
    go_ret2
    exact ⟨y, n, rfl, hy, fn, b5⟩
set_option maxHeartbeats 1600000 in
theorem fnMajority_walk (a0 : Option Addr) (len0 cap0 : Nat) (z0 : List Int) (a1 : Option Addr) (len1 cap1 : Nat) (z1 : List Int) (w : World) (w0 : IsBytes w a0 len0 cap0 z0) (_ : IsBytes w a1 len1 cap1 z1) :
    Calls Try.prog 4 #[.slice a0 len0 cap0, .slice a1 len1 cap1] w fun e w' => e = .returned (.bool true) ∧ Below w.heap.size w w' := by
  by_cases hl : 1048576 < len0
  · go_enter Try.func4, Try.ntmps4
    go_wp2
    go_ret
    exact ⟨rfl, Below.refl _ _⟩
  by_cases hl1 : 1048576 < len1
  · go_enter Try.func4, Try.ntmps4
    go_wp2
    go_ret
    exact ⟨rfl, Below.refl _ _⟩
  go_enter Try.func4, Try.ntmps4
  go_wp2_with fail
  refine (drawRep_any a0 len0 cap0 z0 _ w0).mono ?_
  rintro e W1 ⟨z, n, rfl, hz, _, b1⟩
  clear w0
  have hI := fun w => iRepeat_any z n w (by omega)
  have hS := fun w => sRepeat_any z n w (by omega)
  by_cases hok : bitsB z = true ∧ repsB n = true ∧ z.size * n.toNat ≤ 600
  · have hA : repAns z n = (repS z n.toNat, true) := by unfold repAns; rw [if_pos hok]
    rw [hA] at hI hS
    obtain ⟨m, rfl, m1, m9, mo⟩ := reps_nat hok.2.1
    rw [Int.toNat_natCast] at hI hS
    have h6 := hok.2.2
    rw [Int.toNat_natCast] at h6
    obtain ⟨ho, hz6⟩ := bits_of2 hok.1
    have hrs : (repS z m).size = z.size * m := strF_size _ _
    have HX0 := Lib.hid (FXS_start z m len1)
    have hro := FXS_ok ho m1 len1 0 0
    rw [FXS_start] at hro
    have HB := Lib.hid (fun w => iMaj_any (repS z m) (m : Int) w (by rw [hrs]; omega))
    rw [majAns_yes m1 m9 mo (mkB4 hro (by rw [hrs]; exact h6)) hrs (maj_rep ho m1)] at HB
    have HX := Lib.hid (fun w => iMaj_any (FXS z m len1 z.size 0) (m : Int) w (by rw [FXS_size]; omega))
    rw [majAns_yes m1 m9 mo (mkB4 (FXS_ok ho m1 _ _ _) (by rw [FXS_size]; exact h6)) (FXS_size _ _ _ _ _) (maj_FXS ho m1 m9 mo len1)] at HX
    have HF := Lib.hid (fun i kk (hi : i < z.size) (hk : kk < m / 2) w => show Calls Try.prog 18 #[.string (FXS z m len1 i kk), .int .i64 (i * m + (2 * kk + (len1 + i)) % m : Nat)] w fun e w' => e = .returned (.string (FXS z m len1 i (kk + 1))) ∧ Below w.heap.size w w' by
      have hp := pos_lt (n := z.size) hi (Nat.mod_lt (2 * kk + (len1 + i)) m1)
      have := ssFlip_any (FXS z m len1 i kk) (i * m + (2 * kk + (len1 + i)) % m) w (by rw [FXS_size]; exact hp) (okB_zb _ (FXS_ok ho m1 _ _ _) _ (by rw [FXS_size]; exact hp))
      rw [FXS_next m1 mo len1 i kk hk] at this
      exact this)
    have HR := Lib.hid (fun i => FXS_round z m len1 i)
    obtain ⟨Q, hQ⟩ : ∃ Q, z.size * m = Q := ⟨_, rfl⟩
    have v1 : (m : Int) * (z.size : Int) = (Q : Int) := by rw [← hQ, Int.natCast_mul, Int.mul_comm]
    rw [hQ] at hrs h6
    have t1 : (((repS z m).size : Int) == (Q : Int)) = true := beq_iff_eq.2 (by omega)
    obtain ⟨R, hR⟩ : ∃ R, repS z m = R := ⟨_, rfl⟩
    rw [hR] at hI hS HX0 HB t1
    have HI := Lib.hid hI
    have HS := Lib.hid hS
    have HQ := Lib.hid hQ
    obtain ⟨H, hH⟩ : ∃ H, m / 2 = H := ⟨_, rfl⟩
    have v2 : (m : Int) / 2 = (H : Int) := by omega
    rw [hH] at HR HF
    have p1 : (1 : Int) ≤ (m : Int) := by omega
    have p2 : ¬ (m : Int) = 0 := by omega
    have p3 : ((m : Int) == 0) = false := beq_eq_false_iff_ne.2 (by omega)
    clear hI hS hA hok hro hrs hQ hR ho mo hH
    go_wp2_with fail
    refine (HI.out _).mono ?_
    rintro e w' ⟨rfl, hB⟩
    have c1 := below_then b1 (Nat.le_refl _) hB
    clear hB b1
    go_wp2_with fail
    refine (HS.out _).mono ?_
    rintro e w' ⟨rfl, hB⟩
    have c2 := below_then c1 (Nat.le_refl _) hB
    clear hB c1 HI HS
    go_wp2
    go_loopw [11, 12] (fun v i wr => ∃ k : Nat, k ≤ z.size ∧ i = .int .i64 k ∧ v = .string (FXS z m len1 k 0) ∧ Below w.heap.size w wr) (fun _ i _ => z.size - (intOf i).toNat)
    case atStart => exact ⟨0, by omega, rfl, by rw [HX0.out], c2⟩
    case round =>
      clear c2
      obtain ⟨i, hi, rfl, rfl, rb⟩ := hrel
      by_cases hlt : i < z.size
      · have i1 : (i : Int) < (z.size : Int) := by omega
        go_wp2
        go_loopw [11, 13] (fun v j wr => ∃ k : Nat, k ≤ H ∧ j = .int .i64 k ∧ v = .string (FXS z m len1 i k) ∧ Below w.heap.size w wr) (fun _ j _ => H - (intOf j).toNat)
        case atStart => exact ⟨0, by omega, rfl, rfl, rb⟩
        case round =>
          clear rb
          obtain ⟨k, hk, rfl, rfl, rb⟩ := hrel
          by_cases hlk : k < H
          · have hf := HF.out i k hlt hlk
            have u1 : (i : Int) * (m : Int) = ((i * m : Nat) : Int) := (Int.natCast_mul _ _).symm
            have hle : (i + 1) * m ≤ z.size * m := Nat.mul_le_mul_right _ hlt
            rw [HQ.out, Nat.add_mul, Nat.one_mul] at hle
            obtain ⟨C, hC⟩ : ∃ C, 2 * k + (len1 + i) = C := ⟨_, rfl⟩
            have u2 : (k : Int) * 2 + (len1 : Int) + (i : Int) = (C : Int) := by omega
            have u3 := mod_value C m
            have hrl := Nat.mod_lt C (show 0 < m by omega)
            rw [hC] at hf
            obtain ⟨P, hP⟩ : ∃ C, i * m = C := ⟨_, rfl⟩
            obtain ⟨G, hG⟩ : ∃ G, C % m = G := ⟨_, rfl⟩
            rw [hP] at u1 hle hf
            rw [hG] at u3 hrl hf
            obtain ⟨J, hJ⟩ : ∃ J, P + G = J := ⟨_, rfl⟩
            have u4 : (P : Int) + (G : Int) = (J : Int) := by omega
            rw [hJ] at hf
            obtain ⟨Y, hY⟩ : ∃ Y, FXS z m len1 i (k + 1) = Y := ⟨_, rfl⟩
            obtain ⟨X, hX⟩ : ∃ Y, FXS z m len1 i k = Y := ⟨_, rfl⟩
            rw [hY, hX] at hf
            rw [hX]
            have HY := Lib.hid hY
            have HFF := Lib.hid hf
            have b5 : P ≤ 600 := by omega
            have b6 : i ≤ 600 := by omega
            have j1 : (k : Int) < (H : Int) := by omega
            clear hf hC hP hG hJ hY hX
            go_wp2_with fail
            refine (HFF.out _).mono ?_
            rintro e w' ⟨rfl, hB⟩
            have d1 := below_then rb (Nat.le_refl _) hB
            clear hB rb u1 u2 u3 u4
            go_wp2
            go_roundw
            case rel => exact ⟨k + 1, by omega, by go_num, by rw [HY.out], d1⟩
            case measure => simp [intOf]; omega
          · obtain rfl : k = H := by omega
            have hr := HR.out i
            rw [hr]
            go_wp2
            go_roundw
            case rel => exact ⟨i + 1, by omega, by go_num, rfl, rb⟩
            case measure => simp [intOf]; omega
      · obtain rfl : i = z.size := by omega
        obtain ⟨X, hX⟩ : ∃ Y, FXS z m len1 z.size 0 = Y := ⟨_, rfl⟩
        rw [hX] at HX ⊢
        clear hX
        go_wp2_with fail
        refine (HB.out _).mono ?_
        rintro e w' ⟨rfl, hB⟩
        have d1 := below_then rb (Nat.le_refl _) hB
        clear hB rb
        go_wp2_with fail
        refine (HX.out _).mono ?_
        rintro e w' ⟨rfl, hB⟩
        have d2 := below_then d1 (Nat.le_refl _) hB
        clear hB d1
        go_wp2
        go_ret
        exact ⟨rfl, d2⟩
  · have hA : repAns z n = noS := by unfold repAns; rw [if_neg hok]
    rw [hA] at hI hS
    have HI := Lib.hid hI
    have HS := Lib.hid hS
    clear hI hS hA hok
    go_wp2_with fail
    refine (HI.out _).mono ?_
    rintro e w' ⟨rfl, hB⟩
    have c1 := below_then b1 (Nat.le_refl _) hB
    clear hB b1
    go_wp2_with fail
    refine (HS.out _).mono ?_
    rintro e w' ⟨rfl, hB⟩
    have c2 := below_then c1 (Nat.le_refl _) hB
    clear hB c1
    go_wp2
    go_ret
    exact ⟨rfl, c2⟩
end Go.Proofs.Ytkpiloefmhhclaa
