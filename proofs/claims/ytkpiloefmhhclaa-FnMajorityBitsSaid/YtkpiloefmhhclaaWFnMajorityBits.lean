/- The walk of the law FnMajorityBits. -/
import Derived.Test.YtkpiloefmhhclaaWFnMajority
import Derived.Test.YtkpiloefmhhclaaDrawHarm
import Derived.BigQuiet
namespace Go.Proofs.Ytkpiloefmhhclaa
open Go.RowKit
set_option linter.unusedVariables false
set_option maxRecDepth 100000
/-- How many of the first numbers differ from one. -/
def wN (f : Nat → Nat) (v : Nat) : Nat → Nat
  | 0 => 0
  | k + 1 => wN f v k + (if f k = v then 0 else 1)
theorem wN_le (f : Nat → Nat) (v : Nat) : ∀ k, wN f v k ≤ k
  | 0 => Nat.le_refl _
  | k + 1 => by have := wN_le f v k; simp only [wN]; split <;> omega
theorem wN_sum (f : Nat → Nat) (v : Nat) : ∀ k, sumI (fun r => agr (f r) v) k = (k : Int) - 2 * ((wN f v k : Nat) : Int)
  | 0 => rfl
  | k + 1 => by
    simp only [sumI, wN]
    rw [wN_sum f v k]
    unfold agr
    by_cases e : f k = v
    · rw [if_pos e, if_pos e]; omega
    · rw [if_neg e, if_neg e]; omega
theorem agr_other {x : Nat} (h : x = 48 ∨ x = 49) : agr x 48 = - agr x 49 := by rcases h with rfl | rfl <;> decide
/-- A majority is wrong in fewer than half of its bits. -/
theorem maj_wrong {z : ByteArray} (ho : okB z z.size = true) {m i : Nat} (hi : i * m + m ≤ z.size) : 2 * wN (fun r => zb z (i * m + r)) (majF z m i) m ≤ m := by
  have hsz : (z.extract (i * m) (i * m + m)).size = m := by rw [size_extract _ _ _ hi]; omega
  have hb := balN_ones (z.extract (i * m) (i * m + m))
  rw [hsz] at hb
  have hs : balN (z.extract (i * m) (i * m + m)) = sumI (fun r => agr (zb z (i * m + r)) 49) m := by
    unfold balN
    rw [hsz]
    exact sumI_congr m fun r hr => by rw [zb_extract _ _ _ _ hi (by omega)]
  have hw := wN_sum (fun r => zb z (i * m + r)) (majF z m i) m
  unfold majF at hw ⊢
  by_cases h : m / 2 < onesN (z.extract (i * m) (i * m + m))
  · rw [if_pos h] at hw ⊢
    rw [← hs] at hw
    omega
  · rw [if_neg h] at hw ⊢
    rw [sumI_congr (g := fun r => - agr (zb z (i * m + r)) 49) m (fun r hr => agr_other (okB_zb z ho _ (by omega))), sumI_neg, ← hs] at hw
    omega
theorem majS_ok (z : ByteArray) (m : Nat) : okB (majS z m) (majS z m).size = true := okB_of_zb _ fun i hi => by
  have hs : (majS z m).size = z.size / m := strF_size _ _
  rw [hs] at hi
  have e : zb (majS z m) i = majF z m i := zb_strF hi (majF_lt _ _ _)
  rw [e]
  unfold majF
  split <;> simp
theorem repAns_ok (z : ByteArray) (ho : okB z z.size = true) (n : Int) : okB (repAns z n).1 (repAns z n).1.size = true ∧ (repAns z n).1.size ≤ 600 := by
  unfold repAns
  split
  · rename_i h
    have hs : (repS z n.toNat).size = z.size * n.toNat := strF_size _ _
    refine ⟨okB_of_zb _ fun i hi => ?_, by show (repS z n.toNat).size ≤ 600; rw [hs]; exact h.2.2⟩
    show zb (repS z n.toNat) i = 48 ∨ _
    have hi' : i < z.size * n.toNat := by rw [← hs]; exact hi
    have h1 := ((repsB_iff n).1 h.2.1).1
    have e : zb (repS z n.toNat) i = zb z (i / n.toNat) := zb_strF (f := fun i => zb z (i / n.toNat)) hi' (zb_lt _ _)
    have hq : i / n.toNat < z.size := (Nat.div_lt_iff_lt_mul (by omega)).2 hi'
    show zb (repS z n.toNat) i = 48 ∨ zb (repS z n.toNat) i = 49
    rw [e]; exact okB_zb z ho _ hq
  · exact ⟨by decide, by decide⟩
set_option maxHeartbeats 1600000 in
theorem drawMaj_any (a : Option Addr) (len cap : Nat) (zs : List Int) (w : World) (h : IsBytes w a len cap zs) :
    Calls Try.prog 20 #[.slice a len cap] w (DrawBitsInt w) := by
  go_enter Try.func20, Try.ntmps20
  go_wp2_with fail
  refine (open_any a len cap zs _ h).mono ?_
  rintro e w1 ⟨b, ys, rfl, hr, hb, hlb⟩
  go_wp2_with fail
  refine (l6Count_any b 0 ys _ hr (by omega)).mono ?_
  rintro e w2 ⟨n, q, rfl, fn, hq, hr2, hg2⟩
  have b2 := below_grown hb (Nat.le_refl _) hg2 hlb
  clear hr hb hg2
  go_wp2_with fail
  refine (l1String_bits b q 12 ys _ hr2 (by omega) (by omega)).mono ?_
  rintro e w3 ⟨z, q3, rfl, hzo, hz, hq3, hr3, hg3⟩
  have b3 := below_grown b2 (Nat.le_refl _) hg3 hlb
  have HR := Lib.hid (fun w => sRepeat_any z n w (by omega))
  obtain ⟨hyo, hy6⟩ := repAns_ok z hzo n
  obtain ⟨Y, hY⟩ : ∃ Y, (repAns z n).1 = Y := ⟨_, rfl⟩
  obtain ⟨ok, hok⟩ : ∃ Y, (repAns z n).2 = Y := ⟨_, rfl⟩
  rw [hY, hok] at HR
  rw [hY] at hyo hy6
  have HYO := Lib.hid hyo
  clear hr2 b2 hg3 hY hok hyo hzo
  go_wp2_with fail
  refine (HR.out _).mono ?_
  rintro e w4 ⟨rfl, hB⟩
  have b4 := below_then b3 (Nat.le_refl _) hB
  have hr4 := hr3.below hB
  clear hB b3 hr3
  go_wp2_with fail
  refine (l6Harm_any b q3 ys Y _ hr4 (by omega) HYO.out (by omega)).mono ?_
  rintro e w5 ⟨y, q5, rfl, hyo, hys, hq5, hr5, hg5⟩
  have b5 := below_grown b4 (Nat.le_refl _) hg5 hlb
  clear hr4 b4 hg5 hyo
  go_wp2_with fail
  refine (pick_any b q5 12 ys _ hr5 (by omega) (by omega) (by omega)).mono ?_
  rintro e w6 ⟨k, hk, rfl, hr6, hg6⟩
  have b6 := below_grown b5 (Nat.le_refl _) hg6 hlb
  clear hr5 b5 hg6
  have y6 : y.size ≤ 600 := by omega
  rcases Nat.eq_zero_or_pos k with e0 | e0
  · subst e0
    have hs1 : (y ++ (⟨#[49]⟩ : ByteArray)).size ≤ 601 := by rw [ByteArray.size_append]; show y.size + 1 ≤ 601; omega
    have q1 : y.size + (⟨#[49]⟩ : ByteArray).size ≤ 9223372036854775807 := by show y.size + 1 ≤ _; omega
    obtain ⟨X, hX⟩ : ∃ X, y ++ (⟨#[49]⟩ : ByteArray) = X := ⟨_, rfl⟩
    rw [hX] at hs1
    go_wp2_with fail
    refine (l6Wild_any b _ ys X _ hr6 (by omega) (by omega)).mono ?_
    rintro e w7 ⟨u, q7, rfl, hu, hq7, hr7, hg7⟩
    have b7 := below_grown b6 (Nat.le_refl _) hg7 hlb
    clear hr6 b6 hg7
    go_wp2
    go_ret2
    exact ⟨u, n, rfl, hu, fn, b7⟩
  · have t2 : ((k : Int) == 0) = false := beq_eq_false_iff_ne.2 (by omega)
    go_wp2_with fail
    refine (l6Wild_any b _ ys y _ hr6 (by omega) (by omega)).mono ?_
    rintro e w7 ⟨u, q7, rfl, hu, hq7, hr7, hg7⟩
    have b7 := below_grown b6 (Nat.le_refl _) hg7 hlb
    clear hr6 b6 hg7
    go_wp2
    go_ret2
    exact ⟨u, n, rfl, hu, fn, b7⟩
set_option maxHeartbeats 1600000 in
theorem fnMajorityBits_walk (a0 : Option Addr) (len0 cap0 : Nat) (z0 : List Int) (w : World) (w0 : IsBytes w a0 len0 cap0 z0) :
    Calls Try.prog 5 #[.slice a0 len0 cap0] w fun e w' => e = .returned (.bool true) ∧ Below w.heap.size w w' := by
  by_cases hl : 1048576 < len0
  · go_enter Try.func5, Try.ntmps5
    go_wp2
    go_ret
    exact ⟨rfl, Below.refl _ _⟩
  go_enter Try.func5, Try.ntmps5
  go_wp2_with fail
  refine (drawMaj_any a0 len0 cap0 z0 _ w0).mono ?_
  rintro e W1 ⟨z, n, rfl, hz, _, b1⟩
  clear w0
  have hI := fun w => iMaj_any z n w (by omega)
  have hS := fun w => sMaj_any z n w (by omega)
  by_cases hok : bitsB z = true ∧ repsB n = true ∧ z.size % n.toNat = 0
  · have hA : majAns z n = (majS z n.toNat, true) := by unfold majAns; rw [if_pos hok]
    rw [hA] at hI hS
    obtain ⟨m, rfl, m1, m9, mo⟩ := reps_nat hok.2.1
    rw [Int.toNat_natCast] at hI hS
    have hm0 := hok.2.2
    rw [Int.toNat_natCast] at hm0
    obtain ⟨ho, hz6⟩ := bits_of2 hok.1
    have hss : (majS z m).size = z.size / m := strF_size _ _
    have hso := majS_ok z m
    have hzm : (majS z m).size * m = z.size := by rw [hss]; have := Nat.div_add_mod z.size m; rw [Nat.mul_comm]; omega
    have hrep : repAns (majS z m) m = (repS (majS z m) m, true) := by
      unfold repAns
      have hle : (majS z m).size ≤ 600 := by rw [hss]; exact Nat.le_trans (Nat.div_le_self _ _) hz6
      rw [Int.toNat_natCast, if_pos ⟨mkB4 hso hle, hok.2.1, by rw [hzm]; exact hz6⟩]
    have HRP := Lib.hid (fun w => iRepeat_any (majS z m) (m : Int) w (by rw [hss]; have := Nat.div_le_self z.size m; omega))
    rw [hrep] at HRP
    have hrs : (repS (majS z m) m).size = (majS z m).size * m := strF_size _ _
    have hro : okB (repS (majS z m) m) (repS (majS z m) m).size = true := by
      have := FXS_ok hso m1 0 0 0
      rw [FXS_start] at this; exact this
    have HMB := Lib.hid (fun w => iMaj_any (repS (majS z m) m) (m : Int) w (by rw [hrs, hzm]; omega))
    rw [majAns_yes m1 m9 mo (mkB4 hro (by rw [hrs, hzm]; exact hz6)) hrs (maj_rep hso m1)] at HMB
    have HW := Lib.hid (fun i (hi : i < (majS z m).size) => maj_wrong ho (m := m) (i := i) (by
      have h : (i + 1) * m ≤ (majS z m).size * m := Nat.mul_le_mul_right _ hi
      rw [Nat.add_mul, Nat.one_mul, hzm] at h; exact h))
    have HZ := Lib.hid (fun i (hi : i < (majS z m).size) => show zb (majS z m) i = majF z m i from zb_strF (by rw [← hss]; exact hi) (majF_lt _ _ _))
    obtain ⟨T, hT⟩ : ∃ T, repS (majS z m) m = T := ⟨_, rfl⟩
    rw [hT] at HRP HMB
    obtain ⟨S, hSS⟩ : ∃ T, majS z m = T := ⟨_, rfl⟩
    rw [hSS] at hI hS HRP HMB HW HZ hzm
    have v1 : (S.size : Int) * (m : Int) = (z.size : Int) := by rw [← hzm, Int.natCast_mul]
    have HZM := Lib.hid hzm
    have HI := Lib.hid hI
    have HS := Lib.hid hS
    have s6 : S.size ≤ 600 := by have := Nat.le_mul_of_pos_right S.size m1; omega
    clear hI hS hA hok hm0 ho hss hso hzm hrep hrs hro hT hSS mo
    go_wp2_with fail
    refine (HI.out _).mono ?_
    rintro e w' ⟨rfl, hB⟩
    have c1 := below_then b1 (Nat.le_refl _) hB
    clear hB b1
    go_wp2_with fail
    refine (HS.out _).mono ?_
    rintro e w' ⟨rfl, hB⟩
    have c2 := below_then c1 (Nat.le_refl _) hB
    clear hB c1 HI HS
    go_wp2_with fail
    refine (HRP.out _).mono ?_
    rintro e w' ⟨rfl, hB⟩
    have c3 := below_then c2 (Nat.le_refl _) hB
    clear hB c2
    go_wp2_with fail
    refine (HMB.out _).mono ?_
    rintro e w' ⟨rfl, hB⟩
    have c4 := below_then c3 (Nat.le_refl _) hB
    clear hB c3
    go_wp2
    go_loopw [13] (fun i wr => ∃ k : Nat, k ≤ S.size ∧ i = .int .i64 k ∧ Below w.heap.size w wr) (fun i _ => S.size - (intOf i).toNat)
    case atStart => exact ⟨0, by omega, rfl, c4⟩
    case round =>
      clear c4
      obtain ⟨i, hi, rfl, rb⟩ := hrel
      by_cases hlt : i < S.size
      · have i1 : (i : Int) < (S.size : Int) := by omega
        have hw := HW.out i hlt
        have hzi := HZ.out i hlt
        rw [← hzi, ← zb_at S i hlt] at hw
        obtain ⟨V, hV⟩ : ∃ V, S[i].toNat = V := ⟨_, rfl⟩
        rw [hV] at hw
        have hV2 : (S[i].toNat : Int) = (V : Int) := by rw [hV]
        have HWV := Lib.hid hw
        clear hw hzi hV
        go_wp2
        go_loopw [14, 15] (fun c j wr => ∃ k : Nat, k ≤ m ∧ j = .int .i64 k ∧ c = .int .i64 (wN (fun r => zb z (i * m + r)) V k : Nat) ∧ Below w.heap.size w wr) (fun _ j _ => m - (intOf j).toNat)
        case atStart => exact ⟨0, by omega, rfl, rfl, rb⟩
        case round =>
          clear rb
          obtain ⟨k, hk, rfl, rfl, rb⟩ := hrel
          by_cases hlk : k < m
          · have hp := pos_lt (n := S.size) hlt hlk
            rw [HZM.out] at hp
            have u1 : (i : Int) * (m : Int) = ((i * m : Nat) : Int) := (Int.natCast_mul _ _).symm
            have hwn : wN (fun r => zb z (i * m + r)) V (k + 1) = wN (fun r => zb z (i * m + r)) V k + (if zb z (i * m + k) = V then 0 else 1) := rfl
            have hwl := wN_le (fun r => zb z (i * m + r)) V k
            obtain ⟨C, hC⟩ : ∃ C, wN (fun r => zb z (i * m + r)) V k = C := ⟨_, rfl⟩
            rw [hC] at hwn hwl ⊢
            obtain ⟨P, hP⟩ : ∃ C, i * m = C := ⟨_, rfl⟩
            have hPb : P ≤ 600 := by omega
            obtain ⟨J, hJ⟩ : ∃ J, P + k = J := ⟨_, rfl⟩
            have hnx : wN (fun r => zb z (i * m + r)) V (k + 1) = C + (if zb z J = V then 0 else 1) := by rw [hwn, hP, hJ]
            rw [hP] at u1 hp
            rw [hJ] at hp
            have w1 : IntKind.i64.wrap ((i : Int) * (m : Int)) = (P : Int) := by rw [u1]; exact IntWalk.i64_in _ (by omega)
            have w2 : IntKind.i64.wrap ((P : Int) + (k : Int)) = (J : Int) := by rw [show (P : Int) + (k : Int) = (J : Int) by omega]; exact IntWalk.i64_in _ (by omega)
            rw [← zb_at z J hp] at hnx
            have j0 : (0 : Int) ≤ (J : Int) := by omega
            have j1 : (J : Int) < (z.size : Int) := by omega
            have j2 : (k : Int) < (m : Int) := by omega
            have j3 : (0 : Int) ≤ (i : Int) := by omega
            by_cases he : z[J].toNat = V
            · rw [if_pos he, Nat.add_zero] at hnx
              have t1 : ((z[J].toNat : Int) != (V : Int)) = false := by rw [he]; simp
              have HN := Lib.hid hnx
              clear hwn hC hP hJ hnx u1 he
              go_wp2_with fail
              go_quiet (fail)
              have rb2 := below_drewN rb nq
              clear rb w1 w2 t1
              go_wp2
              go_roundw
              case rel => exact ⟨k + 1, by omega, by go_num, by rw [HN.out]; rfl, rb2⟩
              case measure => simp [intOf]; omega
            · rw [if_neg he] at hnx
              have t1 : ((z[J].toNat : Int) != (V : Int)) = true := by simp; omega
              have HN := Lib.hid hnx
              clear hwn hC hP hJ hnx u1 he
              go_wp2_with fail
              go_quiet (fail)
              have rb2 := below_drewN rb nq
              clear rb w1 w2 t1
              go_wp2
              go_roundw
              case rel => exact ⟨k + 1, by omega, by go_num, by rw [HN.out]; first | rfl | (congr 1; done) | (congr 1; omega) | simp, rb2⟩
              case measure => simp [intOf]; omega
          · obtain rfl : k = m := by omega
            have hw := HWV.out
            obtain ⟨C, hC⟩ : ∃ C, wN (fun r => zb z (i * k + r)) V k = C := ⟨_, rfl⟩
            rw [hC] at hw ⊢
            have t1 : ¬ (k : Int) < 2 * (C : Int) := by omega
            clear hC
            go_wp2
            go_roundw
            case rel => exact ⟨i + 1, by omega, by go_num, rb⟩
            case measure => simp [intOf]; omega
      · obtain rfl : i = S.size := by omega
        go_wp2
        go_ret
        exact ⟨rfl, rb⟩
  · have hA : majAns z n = noS := by unfold majAns; rw [if_neg hok]
    rw [hA] at hI hS
    have HI := Lib.hid hI
    have HS := Lib.hid hS
    clear hI hS hA hok
    go_wp2_with fail
    refine (HI.out _).mono ?_
    rintro e w' ⟨rfl, hB⟩
    have c1 := below_then b1 (Nat.le_refl _) hB
    clear hB b1
    go_wp2_with fail
    refine (HS.out _).mono ?_
    rintro e w' ⟨rfl, hB⟩
    have c2 := below_then c1 (Nat.le_refl _) hB
    clear hB c1
    go_wp2
    go_ret
    exact ⟨rfl, c2⟩
end Go.Proofs.Ytkpiloefmhhclaa
