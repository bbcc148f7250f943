/- The walk of the law FnShortest. -/
import Derived.Test.YtmmonhagceacjaaDrawShort
import Derived.Test.YtmmonhagceacjaaShortMath
import Derived.Test.YtmmonhagceacjaaSsRun
import Derived.Test.YtmmonhagceacjaaRegShort
namespace Go.Proofs.Ytmmonhagceacjaa
open Go.RowKit
set_option linter.unusedVariables false
set_option maxHeartbeats 1600000 in
set_option maxRecDepth 100000 in
theorem fnShortest_walk (a0 : Option Addr) (len0 cap0 : Nat) (z0 : List Int) (w : World) (w0 : IsBytes w a0 len0 cap0 z0) :
    Calls Try.prog 7 #[.slice a0 len0 cap0] w fun e w' => e = .returned (.bool true) ∧ Below w.heap.size w w' := by
  by_cases hl0 : 1048576 < len0
  · go_enter Try.func7, Try.ntmps7
    go_wp2
    go_ret
    exact ⟨rfl, Below.refl _ _⟩
  go_enter Try.func7, Try.ntmps7
  go_wp2_with fail
  refine (drawShort_any a0 len0 cap0 z0 _ w0).mono ?_
  rintro e W1 ⟨z, rfl, hz, bc⟩
  clear w0
  have hi := fun w => iShort_any z w (by omega)
  have hs := fun w => sShort_any z w (by omega)
  have ho : ∀ a b : RegAns, ShA z a → ShA z b → a = b := fun a b h k => h.one k
  have HI := Lib.hid hi
  have HS := Lib.hid hs
  have HO := Lib.hid ho
  clear hi hs ho
  go_wp2_with fail
  refine (HI.out _).mono ?_
  rintro e w1 ⟨⟨a0, a1, a2, ok⟩, hA, rfl, hb2⟩
  have b3 := below_then bc (Nat.le_refl _) hb2
  clear bc hb2
  have HA := Lib.hid hA
  clear hA
  unfold RegAns.val
  cases ok with
  | false =>
    have hn := sh_none HA.out
    rw [hn] at HA
    injection hn with e0 e1 e2 _
    subst e0
    subst e1
    subst e2
    have hb4 := (Below.refl w1.heap.size w1).alloc (Nat.le_refl _) (.cells #[.int .i64 0, .int .i64 0, .int .i64 0] 24)
    have F5 := RegAt.new w1 24 0 0 0
    have b6 := below_then b3 (Nat.le_refl _) hb4
    clear b3 hb4
    obtain ⟨cr0, cr1, cr2, crl⟩ := id F5
    go_wp2_with fail
    clear cr0 cr1 cr2 crl
    refine (HS.out _).mono ?_
    rintro e w7 ⟨b, hB, rfl, hb8⟩
    have F9 := F5.below hb8 F5.2.2.2
    clear F5
    have b10 := below_then b6 (Nat.le_refl _) hb8
    clear b6 hb8
    obtain rfl := HO.out _ _ HA.out hB
    clear hB HA HO
    unfold RegAns.val noReg
    have hb11 := (Below.refl w7.heap.size w7).alloc (Nat.le_refl _) (.cells #[.int .i64 0, .int .i64 0, .int .i64 0] 24)
    have F12 := RegAt.new w7 24 0 0 0
    have F13 := F9.below hb11 F9.2.2.2
    clear F9
    have b14 := below_then b10 (Nat.le_refl _) hb11
    clear b10 hb11
    obtain ⟨cr0, cr1, cr2, crl⟩ := id F13
    obtain ⟨cq0, cq1, cq2, cql⟩ := id F12
    go_wp2
    go_ret
    exact ⟨rfl, b14⟩
  | true =>
    obtain ⟨s, t, x, rfl, rfl, rfl, hR, hok, hm, hrun⟩ := sh_some HA.out
    obtain ⟨hb, z8, z64⟩ := (okS_iff z).1 hok
    have hss := fun w => ssRun_any s t x z.size w hR (by omega)
    rw [hrun] at hss
    have s2 := hR.lo
    have s8 := hR.hi
    have hfr := fun n m (n2 : 2 ≤ n) (n8 : n ≤ 8) (m1 : 1 ≤ m) (hm : m < tw n) w => sh_from hb z8 n2 n8 m1 hm w
    have hrn := fun n m (n2 : 2 ≤ n) (n8 : n ≤ 8) (m1 : 1 ≤ m) (hm : m < tw n) w => ssRun_any n m (valX z n) z.size w (short_reg hok n2 n8 m1 hm) (by omega)
    have hms := fun n m (n2 : 2 ≤ n) (hn : n < s) (m1 : 1 ≤ m) (ht : m < tw n) => str_ne (of_decide_eq_false (hm n m n2 (by omega) m1 ht (.inl hn)))
    clear hb hok hm hrun hR
    have HSS := Lib.hid hss
    have HFR := Lib.hid hfr
    have HRN := Lib.hid hrn
    have HMS := Lib.hid hms
    clear hss hfr hrn hms
    obtain ⟨V15, hb17, F18, hV19⟩ : ∃ V, Below w1.heap.size w1 V ∧ RegAt V w1.heap.size s t x ∧ w1.alloc (.cells #[.int .i64 s, .int .i64 t, .int .i64 x] 24) = V := ⟨_, (Below.refl _ w1).alloc (Nat.le_refl _) _, RegAt.new w1 _ s t x, rfl⟩
    have b21 := below_then b3 (Nat.le_refl _) hb17
    clear b3 hb17
    obtain ⟨k16, hk20⟩ : ∃ k, w1.heap.size = k := ⟨_, rfl⟩
    rw [hk20] at F18
    obtain ⟨cr0, cr1, cr2, crl⟩ := id F18
    go_wp2_with fail
    clear cr0 cr1 cr2 crl hV19 hk20
    refine (HS.out _).mono ?_
    rintro e w22 ⟨b, hB, rfl, hb23⟩
    have F24 := F18.below hb23 F18.2.2.2
    clear F18
    have b25 := below_then b21 (Nat.le_refl _) hb23
    clear b21 hb23
    obtain rfl := HO.out _ _ HA.out hB
    clear hB HA HO
    unfold RegAns.val
    obtain ⟨V26, hb28, F29, hV30⟩ : ∃ V, Below w22.heap.size w22 V ∧ RegAt V w22.heap.size s t x ∧ w22.alloc (.cells #[.int .i64 s, .int .i64 t, .int .i64 x] 24) = V := ⟨_, (Below.refl _ w22).alloc (Nat.le_refl _) _, RegAt.new w22 _ s t x, rfl⟩
    have F32 := F24.below hb28 F24.2.2.2
    clear F24
    have b33 := below_then b25 (Nat.le_refl _) hb28
    clear b25 hb28
    obtain ⟨k27, hk31⟩ : ∃ k, w22.heap.size = k := ⟨_, rfl⟩
    rw [hk31] at F29
    obtain ⟨cr0, cr1, cr2, crl⟩ := id F32
    obtain ⟨cq0, cq1, cq2, cql⟩ := id F29
    go_wp2
    clear cr0 cr1 cr2 crl cq0 cq1 cq2 cql hV30 hk31
    clear F29
    go_loopw [8] (fun c wr => ∃ n : Nat, 2 ≤ n ∧ n ≤ s ∧ c = .int .i64 n ∧ RegAt wr k16 s t x ∧ Below w.heap.size w wr) (fun c _ => s - (intOf c).toNat)
    case atStart => exact ⟨2, by omega, by omega, rfl, F32, b33⟩
    case round =>
      obtain ⟨n, n2, hn, rfl, rR, rb⟩ := hrel
      clear F32 b33
      by_cases hlt : n < s
      · skip
        have n8 : n ≤ 8 := by omega
        have i1 : (n : Int) < (s : Int) := by omega
        have hw := wrap_tw n n8
        have hl := tw_le n n8
        have hp := tw_pos n
        have hFR := fun m m1 => HFR.out n m n2 n8 m1
        have hRN := fun m m1 => HRN.out n m n2 n8 m1
        have hMS := fun m m1 => HMS.out n m n2 hlt m1
        obtain ⟨M, hM⟩ : ∃ M, tw n = M := ⟨_, rfl⟩
        rw [hM] at hw hl hp
        simp only [hM] at hFR hRN hMS
        obtain ⟨X, hX⟩ : ∃ X, valX z n = X := ⟨_, rfl⟩
        simp only [hX] at hFR hRN hMS
        have HW := Lib.hid hw
        have HF9 := Lib.hid hFR
        have HR9 := Lib.hid hRN
        have HM9 := Lib.hid hMS
        clear hM hX hw hFR hRN hMS
        obtain ⟨cr0, cr1, cr2, crl⟩ := id rR
        go_wp2
        clear cr0 cr1 cr2 crl
        go_loopw [9] (fun c wr => ∃ m : Nat, 1 ≤ m ∧ m ≤ M ∧ c = .int .i64 m ∧ RegAt wr k16 s t x ∧ Below w.heap.size w wr) (fun c _ => M - (intOf c).toNat)
        case atStart => exact ⟨1, by omega, by omega, rfl, rR, rb⟩
        case round =>
          clear rR rb
          obtain ⟨m, m1, hm, rfl, rR, rb⟩ := hrel
          by_cases hlm : m < M
          · skip
            have hlw : (m : Int) < wrap64 ((2 : Int) ^ n) := by rw [HW.out]; omega
            have sz0 : (n : Int) ≤ (z.size : Int) := by omega
            have sz1 : (0 : Int) ≤ (n : Int) := by omega
            have HFm := Lib.hid (HF9.out m m1 hlm)
            have HRm := Lib.hid (HR9.out m m1 hlm)
            have hne := HM9.out m m1 hlm
            obtain ⟨Y, hY⟩ : ∃ Y, runS n m X z.size = Y := ⟨_, rfl⟩
            rw [hY] at HRm hne
            clear hY
            obtain ⟨cr0, cr1, cr2, crl⟩ := id rR
            go_wp2_with fail
            clear cr0 cr1 cr2 crl
            refine (HFm.out _).mono ?_
            rintro e w34 ⟨rfl, hb35⟩
            have F36 := rR.below hb35 rR.2.2.2
            clear rR
            have b37 := below_then rb (Nat.le_refl _) hb35
            clear rb hb35
            clear hlw
            obtain ⟨V38, hb40, F41, hV42⟩ : ∃ V, Below w34.heap.size w34 V ∧ RegAt V w34.heap.size n m X ∧ w34.alloc (.cells #[.int .i64 n, .int .i64 m, .int .i64 X] 24) = V := ⟨_, (Below.refl _ w34).alloc (Nat.le_refl _) _, RegAt.new w34 _ n m X, rfl⟩
            have F44 := F36.below hb40 F36.2.2.2
            clear F36
            have b45 := below_then b37 (Nat.le_refl _) hb40
            clear b37 hb40
            obtain ⟨k39, hk43⟩ : ∃ k, w34.heap.size = k := ⟨_, rfl⟩
            rw [hk43] at F41
            obtain ⟨cr0, cr1, cr2, crl⟩ := id F44
            obtain ⟨cx0, cx1, cx2, cxl⟩ := id F41
            go_wp2_with fail
            clear cr0 cr1 cr2 crl cx0 cx1 cx2 cxl hV42 hk43
            refine (HRm.out _).mono ?_
            rintro e w46 ⟨rfl, hb47⟩
            have F48 := F44.below hb47 F44.2.2.2
            clear F44
            have F49 := F41.below hb47 F41.2.2.2
            clear F41
            have b50 := below_then b45 (Nat.le_refl _) hb47
            clear b45 hb47
            clear F49
            go_wp2
            go_roundw
            case rel => exact ⟨m + 1, by omega, by omega, by go_num, F48, b50⟩
            case measure => simp [intOf]; omega
          · skip
            obtain rfl : m = M := by omega
            have hlw : ¬ ((m : Int) < wrap64 ((2 : Int) ^ n)) := by rw [HW.out]; omega
            go_wp2
            go_roundw
            case rel => exact ⟨n + 1, by omega, by omega, by go_num, rR, rb⟩
            case measure => simp [intOf]; omega
      · skip
        obtain rfl : n = s := by omega
        obtain ⟨cr0, cr1, cr2, crl⟩ := id rR
        go_wp2_with fail
        clear cr0 cr1 cr2 crl
        refine (HSS.out _).mono ?_
        rintro e w51 ⟨rfl, hb52⟩
        have F53 := rR.below hb52 rR.2.2.2
        clear rR
        have b54 := below_then rb (Nat.le_refl _) hb52
        clear rb hb52
        obtain ⟨cr0, cr1, cr2, crl⟩ := id F53
        go_wp2
        go_ret
        exact ⟨rfl, b54⟩
end Go.Proofs.Ytmmonhagceacjaa
