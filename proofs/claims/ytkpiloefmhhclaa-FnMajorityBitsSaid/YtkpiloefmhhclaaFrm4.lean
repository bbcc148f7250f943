/- Majorities, of both sides. -/
import Derived.Test.YtkpiloefmhhclaaFrm3
import Derived.Lib.Bytealg
import Derived.Lib.CountLaws
import Derived.Laws.Strings3
namespace Go.Proofs.Ytkpiloefmhhclaa
open Go.RowKit Go.Shelf
set_option linter.unusedVariables false
set_option maxRecDepth 100000
/-- How many bytes of a string are 1. -/
def onesN (z : ByteArray) : Nat := z.data.toList.count 49
theorem sumI_front (f : Nat → Int) : ∀ n, sumI f (n + 1) = f 0 + sumI (fun i => f (i + 1)) n
  | 0 => by simp [sumI]
  | n + 1 => by
    have h := sumI_front f n
    simp only [sumI] at h ⊢
    omega
theorem sumI_count : ∀ l : List UInt8, sumI (fun i => agr (l.getD i 0).toNat 49) l.length = 2 * ((l.count 49 : Nat) : Int) - (l.length : Int)
  | [] => rfl
  | x :: l => by
    have h := sumI_count l
    rw [List.length_cons, sumI_front]
    simp only [List.getD_cons_succ, List.getD_cons_zero]
    rw [h, List.count_cons]
    unfold agr
    by_cases e : x = 49
    · subst e
      rw [if_pos (by decide), if_pos (by decide)]; omega
    · have e2 : ¬ x.toNat = 49 := fun h => e (UInt8.toNat_inj.1 (by rw [h]; rfl))
      rw [if_neg e2, if_neg (by simpa using e)]; omega
theorem balN_ones (z : ByteArray) : balN z = 2 * ((onesN z : Nat) : Int) - (z.size : Int) := sumI_count z.data.toList
theorem onesN_le (z : ByteArray) : onesN z ≤ z.size := List.count_le_length
/-- The bit that most of n have. -/
def majF (z : ByteArray) (n i : Nat) : Nat := if n / 2 < onesN (z.extract (i * n) (i * n + n)) then 49 else 48
def majS (z : ByteArray) (n : Nat) : ByteArray := strF (z.size / n) (majF z n)
def majAns (z : ByteArray) (n : Int) : ByteArray × Bool := if bitsB z = true ∧ repsB n = true ∧ z.size % n.toNat = 0 then (majS z n.toNat, true) else noS
theorem ok_extract {z : ByteArray} (h : okB z z.size = true) (a b : Nat) (hb : b ≤ z.size) : okB (z.extract a b) (z.extract a b).size = true := okB_of_zb _ fun i hi => by
  rw [size_extract _ _ _ hb] at hi
  rw [zb_extract _ _ _ _ hb (by omega)]
  exact okB_zb z h _ (by omega)
theorem count_ones (z : ByteArray) (w : World) : Calls Try.prog 49 #[.string z, .string ⟨#[49]⟩] w fun e w' => e = .returned (.int .i64 (onesN z : Nat)) ∧ w = w' := by
  go_enter Try.func49, Try.ntmps49
  go_wp2
  rw [run_callFunc_extern Try.func70 (by kernel_rfl) (by kernel_rfl) (by kernel_rfl) (e := Extern.BytealgCount.count) (by kernel_rfl), Lib.run_countString]
  simp only [Result.andThen]
  rw [Oper.upon_value]
  go_wp2
  go_ret
  exact ⟨rfl, rfl⟩
theorem maj1_any (z : ByteArray) (n bx bn i : Nat) (w : World) (h0 : w.cell? ⟨bx, 0, none⟩ = some (.string z)) (h1 : w.cell? ⟨bn, 0, none⟩ = some (.int .i64 n)) (hn : 1 ≤ n) (hn9 : n ≤ 9) (hz : z.size ≤ 600) (hi : i * n + n ≤ z.size) :
    Calls Try.prog 48 #[.int .i64 i, .pointer (some ⟨bx, 0, none⟩), .pointer (some ⟨bn, 0, none⟩)] w fun e w' => e = .returned (.int .u8 (majF z n i : Nat)) ∧ Below w.heap.size w w' := by
  have e1 : (i + 1) * n = i * n + n := by rw [Nat.add_mul, Nat.one_mul]
  have hi6 : i ≤ i * n := Nat.le_mul_of_pos_right i hn
  have v1 : (i : Int) * (n : Int) = ((i * n : Nat) : Int) := (Int.natCast_mul _ _).symm
  have v2 : ((i : Int) + 1) * (n : Int) = ((i * n + n : Nat) : Int) := by rw [← e1, Int.natCast_mul]; rfl
  obtain ⟨P, hP⟩ : ∃ P, i * n = P := ⟨_, rfl⟩
  have hM : majF z n i = if n / 2 < onesN (z.extract P (P + n)) then 49 else 48 := by unfold majF; rw [hP]
  rw [hP] at v1 v2 hi hi6
  have hC := fun w => count_ones (z.extract P (P + n)) w
  obtain ⟨c, hc⟩ : ∃ c, onesN (z.extract P (P + n)) = c := ⟨_, rfl⟩
  rw [hc] at hM hC
  obtain ⟨E, hE⟩ : ∃ E, P + n = E := ⟨_, rfl⟩
  rw [hE] at v2 hi hC
  have w1 : IntKind.i64.wrap ((i : Int) * (n : Int)) = (P : Int) := by rw [v1]; exact IntWalk.i64_in _ (by omega)
  have w2 : IntKind.i64.wrap (((i + 1 : Nat) : Int) * (n : Int)) = (E : Int) := by rw [show (((i + 1 : Nat) : Int)) = (i : Int) + 1 by omega, v2]; exact IntWalk.i64_in _ (by omega)
  have w3 : IntKind.i64.wrap ((i : Int) + 1) = ((i + 1 : Nat) : Int) := IntWalk.i64_in _ (by omega)
  have w4 : IntKind.i64.wrap ((n : Int) / 2) = ((n / 2 : Nat) : Int) := by rw [show (n : Int) / 2 = ((n / 2 : Nat) : Int) by omega]; exact IntWalk.i64_in _ (by omega)
  have w5 : (n : Int) / 2 = ((n / 2 : Nat) : Int) := by omega
  have i0 : (0 : Int) ≤ (P : Int) := by omega
  have i1 : (P : Int) ≤ (E : Int) := by omega
  have i2 : (E : Int) ≤ (z.size : Int) := by omega
  have HC := Lib.hid hC
  obtain ⟨I1, hI1⟩ : ∃ I, i + 1 = I := ⟨_, rfl⟩
  rw [hI1] at w2 w3
  obtain ⟨H, hH⟩ : ∃ I, n / 2 = I := ⟨_, rfl⟩
  rw [hH] at w4 w5 hM
  clear v1 v2 hP hE hc hC e1 hi hi6 hI1 hH
  by_cases hlt : H < c
  · have hgt : (H : Int) < (c : Int) := by omega
    have HM : Hid (majF z n i = 49) := Lib.hid (by rw [hM, if_pos hlt])
    clear hM hlt
    go_enter Try.func48, Try.ntmps48
    go_wp2_with fail
    go_quiet ((go_at_call 49; exact quiet_same (HC.out _)))
    go_wp2
    go_ret
    exact ⟨ret_u8 HM.out.symm, below_drewN (Below.refl _ _) _⟩
  · have hgt : ¬ (H : Int) < (c : Int) := by omega
    have HM : Hid (majF z n i = 48) := Lib.hid (by rw [hM, if_neg hlt])
    clear hM hlt
    go_enter Try.func48, Try.ntmps48
    go_wp2_with fail
    go_quiet ((go_at_call 49; exact quiet_same (HC.out _)))
    go_wp2
    go_ret
    exact ⟨ret_u8 HM.out.symm, below_drewN (Below.refl _ _) _⟩
theorem iMaj_any (z : ByteArray) (n : Int) (w : World) (hs : z.size ≤ 1048576) :
    Calls Try.prog 19 #[.string z, .int .i64 n] w fun e w' => e = .returned (.tuple #[.string (majAns z n).1, .bool (majAns z n).2]) ∧ Below w.heap.size w w' := by
  have hv := fun w => bitsValid_any z w (by omega)
  have b0 := ((Below.refl w.heap.size w).alloc (Nat.le_refl _) (.cells #[.string z] 9)).alloc (by simp) (.cells #[.int .i64 n] 3)
  cases hb : bitsB z with
  | false =>
    rw [hb] at hv
    have HX : Hid (majAns z n = noS) := Lib.hid (by unfold majAns; rw [if_neg (by rw [hb]; simp)])
    have HV := Lib.hid hv
    clear hb hv
    go_enter Try.func19, Try.ntmps19
    go_wp2_with fail
    refine (HV.out _).mono ?_
    rintro e w1 ⟨rfl, rfl⟩
    go_wp2
    go_ret2
    exact ⟨ret_sA HX.out, b0⟩
  | true =>
    rw [hb] at hv
    cases hr : repsB n with
    | false =>
      have HX : Hid (majAns z n = noS) := Lib.hid (by unfold majAns; rw [if_neg (by rw [hr]; simp)])
      have hR := fun w => iReps_any n w
      rw [hr] at hR
      have HV := Lib.hid hv
      have HR := Lib.hid hR
      clear hb hv hr hR
      go_enter Try.func19, Try.ntmps19
      go_wp2_with fail
      refine (HV.out _).mono ?_
      rintro e w1 ⟨rfl, rfl⟩
      go_wp2_with fail
      refine (HR.out _).mono ?_
      rintro e w1 ⟨rfl, rfl⟩
      go_wp2
      go_ret2
      exact ⟨ret_sA HX.out, b0⟩
    | true =>
      obtain ⟨m, rfl, m1, m9, mo⟩ := reps_nat hr
      have hR := fun w => iReps_any (m : Int) w
      rw [hr] at hR
      have HV := Lib.hid hv
      have HR := Lib.hid hR
      have hz6 := (bits_of2 hb).2
      have v1 := mod_value z.size m
      have v2 := div_value z.size m hs
      have p1 : (1 : Int) ≤ (m : Int) := by omega
      have p2 : ¬ (m : Int) = 0 := by omega
      have p3 : ((m : Int) == 0) = false := by simp; omega
      by_cases h6 : z.size % m = 0
      · have HX : Hid (majAns z m = (majS z m, true)) := Lib.hid (by unfold majAns; rw [Int.toNat_natCast, if_pos ⟨hb, hr, h6⟩])
        have hzm : z.size = z.size / m * m := by have := Nat.div_add_mod z.size m; rw [Nat.mul_comm]; omega
        have hdl := Nat.div_le_self z.size m
        have s1 : (w.alloc (.cells #[.string z] 9)).heap.size = w.heap.size + 1 := World.size_alloc _ _
        have cs : ((w.alloc (.cells #[.string z] 9)).alloc (.cells #[.int .i64 m] 3)).heap.size = w.heap.size + 2 := by rw [World.size_alloc, s1]
        have c0 := box_old (box_new w (.string z) 9) (by omega) (.cells #[.int .i64 m] 3)
        have c1 := box_new (w.alloc (.cells #[.string z] 9)) (.int .i64 m) 3
        rw [s1] at c1
        have hcall : ∀ W, W = (w.alloc (.cells #[.string z] 9)).alloc (.cells #[.int .i64 m] 3) → Calls Try.prog 35 #[.int .i64 (z.size / m : Nat), .func (.func 48) #[] #[.pointer (some ⟨w.heap.size, 0, none⟩), .pointer (some ⟨w.heap.size + 1, 0, none⟩)]] W
            fun e w' => e = .returned (.string (majS z m)) ∧ Below W.heap.size W w' := fun W hW => by
          refine bitsOf_any (z.size / m) (majF z m) 48 _ W (by omega) (enters_of Try.func48 (by kernel_rfl) rfl) ?_
          intro V i hV hi
          subst hW
          have hle : (i + 1) * m ≤ z.size / m * m := Nat.mul_le_mul_right _ hi
          rw [← hzm, Nat.add_mul, Nat.one_mul] at hle
          exact maj1_any z m w.heap.size (w.heap.size + 1) i V (box_kept c0 (by rw [cs]; omega) hV) (box_kept c1 (by rw [cs]; omega) hV) m1 m9 hz6 hle
        obtain ⟨Q, hQ⟩ : ∃ Q, z.size / m = Q := ⟨_, rfl⟩
        rw [hQ] at v2 hcall
        obtain ⟨y, hy⟩ : ∃ y, majS z m = y := ⟨_, rfl⟩
        rw [hy] at hcall HX
        have HC := Lib.hid hcall
        rw [h6] at v1
        have HB := Lib.hid b0
        clear hb hv hr hR h6 mo hzm hdl s1 cs c0 c1 hcall hQ hy b0
        go_enter Try.func19, Try.ntmps19
        go_wp2_with fail
        refine (HV.out _).mono ?_
        rintro e w1 ⟨rfl, rfl⟩
        go_wp2_with fail
        refine (HR.out _).mono ?_
        rintro e w1 ⟨rfl, rfl⟩
        go_wp2_with fail
        refine (HC.out _ rfl).mono ?_
        rintro e w1 ⟨rfl, hb1⟩
        have b1 := below_then HB.out (by simp) hb1
        clear hb1
        go_wp2
        go_ret2
        exact ⟨ret_sA HX.out, b1⟩
      · have HX : Hid (majAns z m = noS) := Lib.hid (by unfold majAns; rw [Int.toNat_natCast, if_neg (fun h => h6 h.2.2)])
        obtain ⟨M, hM⟩ : ∃ M, z.size % m = M := ⟨_, rfl⟩
        rw [hM] at v1 h6
        have t1 : ((M : Int) != 0) = true := by simp; omega
        clear hb hv hr hR h6 hM mo v2
        go_enter Try.func19, Try.ntmps19
        go_wp2_with fail
        refine (HV.out _).mono ?_
        rintro e w1 ⟨rfl, rfl⟩
        go_wp2_with fail
        refine (HR.out _).mono ?_
        rintro e w1 ⟨rfl, rfl⟩
        go_wp2
        go_ret2
        exact ⟨ret_sA HX.out, b0⟩
theorem str1_49 : strF 1 (fun _ => 49) = ⟨#[49]⟩ := rfl
theorem str1_48 : strF 1 (fun _ => 48) = ⟨#[48]⟩ := rfl
theorem majF_lt (z : ByteArray) (n i : Nat) : majF z n i < 256 := by unfold majF; split <;> omega
theorem maj_next (z : ByteArray) (n k : Nat) (b : Nat) (hb : b = majF z n k) : strF k (majF z n) ++ strF 1 (fun _ => b) = strF (k + 1) (majF z n) := strF_snoc' k (majF z n) b hb (majF_lt z n)
theorem sMaj_any (z : ByteArray) (n : Int) (w : World) (hs : z.size ≤ 1048576) :
    Calls Try.prog 21 #[.string z, .int .i64 n] w fun e w' => e = .returned (.tuple #[.string (majAns z n).1, .bool (majAns z n).2]) ∧ Below w.heap.size w w' := by
  have hv := fun w => l1Bits_any z w (by omega)
  cases hb : bitsB z with
  | false =>
    rw [hb] at hv
    have HX : Hid (majAns z n = noS) := Lib.hid (by unfold majAns; rw [if_neg (by rw [hb]; simp)])
    have HV := Lib.hid hv
    clear hb hv
    go_enter Try.func21, Try.ntmps21
    go_wp2_with fail
    refine (HV.out _).mono ?_
    rintro e w1 ⟨rfl, rfl⟩
    go_wp2
    go_ret2
    exact ⟨ret_sA HX.out, Below.refl _ _⟩
  | true =>
    rw [hb] at hv
    cases hr : repsB n with
    | false =>
      have HX : Hid (majAns z n = noS) := Lib.hid (by unfold majAns; rw [if_neg (by rw [hr]; simp)])
      have hR := fun w => sReps_any n w
      rw [hr] at hR
      have HV := Lib.hid hv
      have HR := Lib.hid hR
      clear hb hv hr hR
      go_enter Try.func21, Try.ntmps21
      go_wp2_with fail
      refine (HV.out _).mono ?_
      rintro e w1 ⟨rfl, rfl⟩
      go_wp2_with fail
      refine (HR.out _).mono ?_
      rintro e w1 ⟨rfl, rfl⟩
      go_wp2
      go_ret2
      exact ⟨ret_sA HX.out, Below.refl _ _⟩
    | true =>
      obtain ⟨m, rfl, m1, m9, mo⟩ := reps_nat hr
      have hR := fun w => sReps_any (m : Int) w
      rw [hr] at hR
      have HV := Lib.hid hv
      have HR := Lib.hid hR
      have hz6 := (bits_of2 hb).2
      have v1 := mod_value z.size m
      have p1 : (1 : Int) ≤ (m : Int) := by omega
      have p2 : ¬ (m : Int) = 0 := by omega
      have p3 : ((m : Int) == 0) = false := by simp; omega
      by_cases h6 : z.size % m = 0
      · have HX : Hid (majAns z m = (majS z m, true)) := Lib.hid (by unfold majAns; rw [Int.toNat_natCast, if_pos ⟨hb, hr, h6⟩])
        have hzm : z.size = z.size / m * m := by have := Nat.div_add_mod z.size m; rw [Nat.mul_comm]; omega
        have HOK := Lib.hid (bits_of2 hb).1
        obtain ⟨Q, hQ⟩ : ∃ Q, z.size / m = Q := ⟨_, rfl⟩
        rw [hQ] at hzm
        rw [h6] at v1
        have HZM := Lib.hid hzm
        have HQ := Lib.hid hQ
        have HMO := Lib.hid mo
        clear hb hv hr hR h6 mo hQ hzm
        go_enter Try.func21, Try.ntmps21
        go_wp2_with fail
        refine (HV.out _).mono ?_
        rintro e w1 ⟨rfl, rfl⟩
        go_wp2_with fail
        refine (HR.out _).mono ?_
        rintro e w1 ⟨rfl, rfl⟩
        go_wp2
        clear v1
        go_loopw [6, 7] (fun s i wr => ∃ k : Nat, k ≤ Q ∧ i = .int .i64 (k * m : Nat) ∧ s = .string (strF k (majF z m)) ∧ wr = w) (fun _ i _ => z.size - (intOf i).toNat)
        case atStart => exact ⟨0, by omega, by simp, rfl, rfl⟩
        case round =>
          obtain ⟨k, hk, rfl, rfl, rfl⟩ := hrel
          by_cases hlt : k < Q
          · have hle : (k + 1) * m ≤ Q * m := Nat.mul_le_mul_right _ hlt
            have e1 : (k + 1) * m = k * m + m := by rw [Nat.add_mul, Nat.one_mul]
            rw [← HZM.out] at hle
            have hF : majF z m k = if m / 2 < onesN (z.extract (k * m) (k * m + m)) then 49 else 48 := rfl
            obtain ⟨P, hP⟩ : ∃ P, k * m = P := ⟨_, rfl⟩
            rw [e1, hP] at hle
            rw [hP] at e1 hF ⊢
            have hx := size_extract z P (P + m) hle
            have hL := fun w => l2Balance_any (z.extract P (P + m)) w (ok_extract HOK.out _ _ hle) (by omega)
            rw [balN_ones, hx, show P + m - P = m by omega] at hL
            have hol := onesN_le (z.extract P (P + m))
            rw [hx] at hol
            obtain ⟨c, hc⟩ : ∃ c, onesN (z.extract P (P + m)) = c := ⟨_, rfl⟩
            rw [hc] at hL hF hol
            have hmo := HMO.out
            have hsz := strF_size k (majF z m)
            have HN := Lib.hid (fun b hb => maj_next z m k b hb)
            obtain ⟨S, hS⟩ : ∃ S, strF k (majF z m) = S := ⟨_, rfl⟩
            rw [hS] at HN hsz ⊢
            obtain ⟨T, hT⟩ : ∃ T, 2 * ((c : Nat) : Int) - (m : Int) = T := ⟨_, rfl⟩
            rw [hT] at hL
            obtain ⟨E, hE⟩ : ∃ E, P + m = E := ⟨_, rfl⟩
            have hE' : (P : Int) + (m : Int) = (E : Int) := by omega
            rw [hE] at hL hle e1
            have hLt : (P : Int) < (z.size : Int) := by omega
            have i0 : (0 : Int) ≤ (P : Int) := by omega
            have i1 : (P : Int) ≤ (E : Int) := by omega
            have i2 : (E : Int) ≤ (z.size : Int) := by omega
            have HE := Lib.hid e1
            have HL := Lib.hid hL
            have HEN := Lib.hid hE
            have HK := Lib.hid hlt
            have hkq : k ≤ 600 := by have := Nat.le_mul_of_pos_right k m1; omega
            by_cases hgt : m / 2 < c
            · have t1 : (0 : Int) < T := by omega
              rw [if_pos hgt] at hF
              have HS := Lib.hid (HN.out 49 hF.symm)
              rw [str1_49] at HS
              clear hT hgt hF hL hol hx hmo hc hS hlt e1 HN hP hE
              go_wp2_with fail
              refine (HL.out _).mono ?_
              rintro e w1 ⟨rfl, rfl⟩
              go_wp2
              clear hE'
              go_roundw
              case rel => exact ⟨k + 1, HK.out, by rw [HE.out], by rw [← HS.out], trivial⟩
              case measure => have := HEN.out; simp [intOf]; omega
            · have t1 : ¬ (0 : Int) < T := by omega
              rw [if_neg hgt] at hF
              have HS := Lib.hid (HN.out 48 hF.symm)
              rw [str1_48] at HS
              clear hT hgt hF hL hol hx hmo hc hS hlt e1 HN hP hE
              go_wp2_with fail
              refine (HL.out _).mono ?_
              rintro e w1 ⟨rfl, rfl⟩
              go_wp2
              clear hE'
              go_roundw
              case rel => exact ⟨k + 1, HK.out, by rw [HE.out], by rw [← HS.out], trivial⟩
              case measure => have := HEN.out; simp [intOf]; omega
          · obtain rfl : k = Q := by omega
            rw [← HZM.out]
            have HXX : Hid (majAns z m = (strF k (majF z m), true)) := Lib.hid (by rw [HX.out]; unfold majS; rw [HQ.out])
            go_wp2
            go_ret2
            exact ⟨ret_sA HXX.out, Below.refl _ _⟩
      · have HX : Hid (majAns z m = noS) := Lib.hid (by unfold majAns; rw [Int.toNat_natCast, if_neg (fun h => h6 h.2.2)])
        obtain ⟨M, hM⟩ : ∃ M, z.size % m = M := ⟨_, rfl⟩
        rw [hM] at v1 h6
        have t1 : ((M : Int) != 0) = true := by simp; omega
        clear hb hv hr hR h6 hM mo
        go_enter Try.func21, Try.ntmps21
        go_wp2_with fail
        refine (HV.out _).mono ?_
        rintro e w1 ⟨rfl, rfl⟩
        go_wp2_with fail
        refine (HR.out _).mono ?_
        rintro e w1 ⟨rfl, rfl⟩
        go_wp2
        go_ret2
        exact ⟨ret_sA HX.out, Below.refl _ _⟩
end Go.Proofs.Ytkpiloefmhhclaa
