/- The walk of the law FnRegisterFrom. -/
import Derived.Test.YtmmonhagceacjaaDrawFrom
import Derived.Test.YtmmonhagceacjaaShortMath
import Derived.Test.YtmmonhagceacjaaSsRun
import Derived.Test.YtmmonhagceacjaaRegFrom
namespace Go.Proofs.Ytmmonhagceacjaa
open Go.RowKit
set_option linter.unusedVariables false
set_option maxHeartbeats 1600000 in
set_option maxRecDepth 100000 in
theorem fnRegisterFrom_walk (a0 : Option Addr) (len0 cap0 : Nat) (z0 : List Int) (w : World) (w0 : IsBytes w a0 len0 cap0 z0) :
    Calls Try.prog 4 #[.slice a0 len0 cap0] w fun e w' => e = .returned (.bool true) ∧ Below w.heap.size w w' := by
  by_cases hl0 : 1048576 < len0
  · go_enter Try.func4, Try.ntmps4
    go_wp2
    go_ret
    exact ⟨rfl, Below.refl _ _⟩
  go_enter Try.func4, Try.ntmps4
  go_wp2_with fail
  refine (drawFrom_any a0 len0 cap0 z0 _ w0).mono ?_
  rintro e W1 ⟨S, T, z, rfl, fS, fT, hz, bc⟩
  clear w0
  have hs := fun w => sFrom_any S T z w (by omega)
  have hi := fun w => iFrom_any S T z w (by omega)
  by_cases hok : tapsB S T = true ∧ (z.size : Int) = S ∧ bitsB z = true
  · skip
    rw [fromAns_yes hok] at hs hi
    obtain ⟨hv, hl, hb⟩ := hok
    obtain ⟨h1, h2, h3, h4⟩ := (tapsB_iff S T).1 hv
    obtain ⟨s, rfl⟩ : ∃ s : Nat, S = s := ⟨S.toNat, by omega⟩
    obtain ⟨t, rfl⟩ : ∃ t : Nat, T = t := ⟨T.toNat, by omega⟩
    rw [Int.toNat_natCast] at h4
    have hz0 : z.size = s := by omega
    have hx := valN_lt _ (allBits_of z z.size (Nat.le_refl _) (by unfold bitsB at hb; simp only [Bool.and_eq_true] at hb; exact hb.1))
    rw [take_all, show z.data.toList.length = z.size from rfl, hz0] at hx
    have hR : RegN s t (valN z.data.toList) := ⟨by omega, by omega, by omega, by omega, hx⟩
    have hrun := run_from (t := t) hz0 hb
    have hss := fun w => ssRun_any s t (valN z.data.toList) s w hR (by omega)
    rw [hrun] at hss
    unfold RegAns.val at hs hi
    obtain ⟨x, hxx⟩ : ∃ x, valN z.data.toList = x := ⟨_, rfl⟩
    rw [hxx] at hs hi hss
    clear hxx hrun hR hx hz0 hb hv hl h1 h2 h3 h4 hz fS fT
    have HS := Lib.hid hs
    have HI := Lib.hid hi
    have HSS := Lib.hid hss
    clear hs hi hss
    go_wp2_with fail
    refine (HI.out _).mono ?_
    rintro e w1 ⟨rfl, hb2⟩
    have b3 := below_then bc (Nat.le_refl _) hb2
    clear bc hb2
    obtain ⟨V4, hb6, F7, hV8⟩ : ∃ V, Below w1.heap.size w1 V ∧ RegAt V w1.heap.size s t x ∧ w1.alloc (.cells #[.int .i64 s, .int .i64 t, .int .i64 x] 24) = V := ⟨_, (Below.refl _ w1).alloc (Nat.le_refl _) _, RegAt.new w1 _ s t x, rfl⟩
    have b10 := below_then b3 (Nat.le_refl _) hb6
    clear b3 hb6
    obtain ⟨k5, hk9⟩ : ∃ k, w1.heap.size = k := ⟨_, rfl⟩
    rw [hk9] at F7
    obtain ⟨cr0, cr1, cr2, crl⟩ := id F7
    go_wp2_with fail
    clear cr0 cr1 cr2 crl hV8 hk9
    refine (HS.out _).mono ?_
    rintro e w11 ⟨rfl, hb12⟩
    have F13 := F7.below hb12 F7.2.2.2
    clear F7
    have b14 := below_then b10 (Nat.le_refl _) hb12
    clear b10 hb12
    obtain ⟨V15, hb17, F18, hV19⟩ : ∃ V, Below w11.heap.size w11 V ∧ RegAt V w11.heap.size s t x ∧ w11.alloc (.cells #[.int .i64 s, .int .i64 t, .int .i64 x] 24) = V := ⟨_, (Below.refl _ w11).alloc (Nat.le_refl _) _, RegAt.new w11 _ s t x, rfl⟩
    have F21 := F13.below hb17 F13.2.2.2
    clear F13
    have b22 := below_then b14 (Nat.le_refl _) hb17
    clear b14 hb17
    obtain ⟨k16, hk20⟩ : ∃ k, w11.heap.size = k := ⟨_, rfl⟩
    rw [hk20] at F18
    obtain ⟨cr0, cr1, cr2, crl⟩ := id F21
    obtain ⟨cq0, cq1, cq2, cql⟩ := id F18
    go_wp2_with fail
    clear cr0 cr1 cr2 crl cq0 cq1 cq2 cql hV19 hk20
    refine (HSS.out _).mono ?_
    rintro e w23 ⟨rfl, hb24⟩
    have F25 := F21.below hb24 F21.2.2.2
    clear F21
    have F26 := F18.below hb24 F18.2.2.2
    clear F18
    have b27 := below_then b22 (Nat.le_refl _) hb24
    clear b22 hb24
    clear F26
    obtain ⟨cr0, cr1, cr2, crl⟩ := id F25
    go_wp2_with fail
    clear cr0 cr1 cr2 crl
    refine (HI.out _).mono ?_
    rintro e w28 ⟨rfl, hb29⟩
    have F30 := F25.below hb29 F25.2.2.2
    clear F25
    have b31 := below_then b27 (Nat.le_refl _) hb29
    clear b27 hb29
    obtain ⟨V32, hb34, F35, hV36⟩ : ∃ V, Below w28.heap.size w28 V ∧ RegAt V w28.heap.size s t x ∧ w28.alloc (.cells #[.int .i64 s, .int .i64 t, .int .i64 x] 24) = V := ⟨_, (Below.refl _ w28).alloc (Nat.le_refl _) _, RegAt.new w28 _ s t x, rfl⟩
    have F38 := F30.below hb34 F30.2.2.2
    clear F30
    have b39 := below_then b31 (Nat.le_refl _) hb34
    clear b31 hb34
    obtain ⟨k33, hk37⟩ : ∃ k, w28.heap.size = k := ⟨_, rfl⟩
    rw [hk37] at F35
    obtain ⟨cr0, cr1, cr2, crl⟩ := id F38
    obtain ⟨cx0, cx1, cx2, cxl⟩ := id F35
    go_wp2_with fail
    clear cr0 cr1 cr2 crl cx0 cx1 cx2 cxl hV36 hk37
    refine (HSS.out _).mono ?_
    rintro e w40 ⟨rfl, hb41⟩
    have F42 := F38.below hb41 F38.2.2.2
    clear F38
    have F43 := F35.below hb41 F35.2.2.2
    clear F35
    have b44 := below_then b39 (Nat.le_refl _) hb41
    clear b39 hb41
    obtain ⟨cr0, cr1, cr2, crl⟩ := id F42
    obtain ⟨cx0, cx1, cx2, cxl⟩ := id F43
    go_wp2
    go_ret
    exact ⟨rfl, b44⟩
  · skip
    rw [fromAns_no hok] at hs hi
    unfold RegAns.val noReg at hs hi
    clear hok
    have HS := Lib.hid hs
    have HI := Lib.hid hi
    clear hs hi
    go_wp2_with fail
    refine (HI.out _).mono ?_
    rintro e w45 ⟨rfl, hb46⟩
    have b47 := below_then bc (Nat.le_refl _) hb46
    clear bc hb46
    have hb48 := (Below.refl w45.heap.size w45).alloc (Nat.le_refl _) (.cells #[.int .i64 0, .int .i64 0, .int .i64 0] 24)
    have F49 := RegAt.new w45 24 0 0 0
    have b50 := below_then b47 (Nat.le_refl _) hb48
    clear b47 hb48
    obtain ⟨cr0, cr1, cr2, crl⟩ := id F49
    go_wp2_with fail
    clear cr0 cr1 cr2 crl
    refine (HS.out _).mono ?_
    rintro e w51 ⟨rfl, hb52⟩
    have F53 := F49.below hb52 F49.2.2.2
    clear F49
    have b54 := below_then b50 (Nat.le_refl _) hb52
    clear b50 hb52
    have hb55 := (Below.refl w51.heap.size w51).alloc (Nat.le_refl _) (.cells #[.int .i64 0, .int .i64 0, .int .i64 0] 24)
    have F56 := RegAt.new w51 24 0 0 0
    have F57 := F53.below hb55 F53.2.2.2
    clear F53
    have b58 := below_then b54 (Nat.le_refl _) hb55
    clear b54 hb55
    obtain ⟨cr0, cr1, cr2, crl⟩ := id F57
    obtain ⟨cq0, cq1, cq2, cql⟩ := id F56
    go_wp2
    go_ret
    exact ⟨rfl, b58⟩
end Go.Proofs.Ytmmonhagceacjaa
