/- The walk of the law FnPredict. -/
import Derived.Test.YtmmonhagceacjaaDrawRun
import Derived.Test.YtmmonhagceacjaaShortMath
import Derived.Test.YtmmonhagceacjaaSsRun
import Derived.Test.YtmmonhagceacjaaRegShort
namespace Go.Proofs.Ytmmonhagceacjaa
open Go.RowKit
set_option linter.unusedVariables false
set_option maxHeartbeats 1600000 in
set_option maxRecDepth 100000 in
theorem fnPredict_walk (a0 : Option Addr) (len0 cap0 : Nat) (z0 : List Int) (w : World) (w0 : IsBytes w a0 len0 cap0 z0) :
    Calls Try.prog 8 #[.slice a0 len0 cap0] w fun e w' => e = .returned (.bool true) ∧ Below w.heap.size w w' := by
  by_cases hl0 : 1048576 < len0
  · go_enter Try.func8, Try.ntmps8
    go_wp2
    go_ret
    exact ⟨rfl, Below.refl _ _⟩
  go_enter Try.func8, Try.ntmps8
  go_wp2_with fail
  refine (drawRun_any a0 len0 cap0 z0 _ w0).mono ?_
  rintro e W1 ⟨S, T, X, K, rfl, -, -, -, -, bc⟩
  clear w0
  have hi := fun w => iRegisterValid_any S T X w
  have hs := fun w => sRegisterValid_any S T X w
  cases hv : regB S T X with
  | false =>
    rw [hv] at hi hs
    clear hv
    have HI := Lib.hid hi
    have HS := Lib.hid hs
    clear hi hs
    have hb1 := (Below.refl W1.heap.size W1).alloc (Nat.le_refl _) (.cells #[.int .i64 S, .int .i64 T, .int .i64 X] 24)
    have F2 := RegAt.new W1 24 S T X
    have b3 := below_then bc (Nat.le_refl _) hb1
    clear bc hb1
    obtain ⟨cr0, cr1, cr2, crl⟩ := id F2
    go_wp2_with fail
    clear cr0 cr1 cr2 crl
    refine (HI.out _).mono ?_
    rintro e w4 ⟨rfl, hb5⟩
    have F6 := F2.below hb5 F2.2.2.2
    clear F2
    have b7 := below_then b3 (Nat.le_refl _) hb5
    clear b3 hb5
    obtain ⟨cr0, cr1, cr2, crl⟩ := id F6
    go_wp2_with fail
    clear cr0 cr1 cr2 crl
    refine (HS.out _).mono ?_
    rintro e w8 ⟨rfl, hb9⟩
    have F10 := F6.below hb9 F6.2.2.2
    clear F6
    have b11 := below_then b7 (Nat.le_refl _) hb9
    clear b7 hb9
    obtain ⟨cr0, cr1, cr2, crl⟩ := id F10
    go_wp2
    go_ret
    exact ⟨rfl, b11⟩
  | true =>
    rw [hv] at hi hs
    obtain ⟨s, t, x, rfl, rfl, rfl, hR⟩ := RegN.of hv
    have h8 := hR.hi
    have hr := fun w => ssRun_any s t x 16 w hR (by omega)
    have hq := fun w => ssRun_any s t x 64 w hR (by omega)
    rw [show ((64 : Nat) : Int) = 64 from rfl] at hq
    have hp := fun a ha => predict hR (a := a) ha
    have ha := fun w => iShort_any (runS s t x 16) w (by rw [runS_size]; omega)
    have hb := fun w => sShort_any (runS s t x 16) w (by rw [runS_size]; omega)
    obtain ⟨Z, hZ⟩ : ∃ Z, runS s t x 16 = Z := ⟨_, rfl⟩
    rw [hZ] at hr hp ha hb
    obtain ⟨Y, hY⟩ : ∃ Y, runS s t x 64 = Y := ⟨_, rfl⟩
    rw [hY] at hq hp
    have ho : ∀ a b : RegAns, ShA Z a → ShA Z b → a = b := fun a b h k => h.one k
    clear hZ hY hv
    have HI := Lib.hid hi
    have HS := Lib.hid hs
    have HR := Lib.hid hr
    have HQ := Lib.hid hq
    have HP := Lib.hid hp
    have HA := Lib.hid ha
    have HB := Lib.hid hb
    have HO := Lib.hid ho
    clear hi hs hr hq hp ha hb ho
    have hb12 := (Below.refl W1.heap.size W1).alloc (Nat.le_refl _) (.cells #[.int .i64 s, .int .i64 t, .int .i64 x] 24)
    have F13 := RegAt.new W1 24 s t x
    have b14 := below_then bc (Nat.le_refl _) hb12
    clear bc hb12
    obtain ⟨cr0, cr1, cr2, crl⟩ := id F13
    go_wp2_with fail
    clear cr0 cr1 cr2 crl
    refine (HI.out _).mono ?_
    rintro e w15 ⟨rfl, hb16⟩
    have F17 := F13.below hb16 F13.2.2.2
    clear F13
    have b18 := below_then b14 (Nat.le_refl _) hb16
    clear b14 hb16
    obtain ⟨cr0, cr1, cr2, crl⟩ := id F17
    go_wp2_with fail
    clear cr0 cr1 cr2 crl
    refine (HR.out _).mono ?_
    rintro e w19 ⟨rfl, hb20⟩
    have F21 := F17.below hb20 F17.2.2.2
    clear F17
    have b22 := below_then b18 (Nat.le_refl _) hb20
    clear b18 hb20
    obtain ⟨cr0, cr1, cr2, crl⟩ := id F21
    go_wp2_with fail
    clear cr0 cr1 cr2 crl
    refine (HA.out _).mono ?_
    rintro e w23 ⟨a, hA, rfl, hb24⟩
    have F25 := F21.below hb24 F21.2.2.2
    clear F21
    have b26 := below_then b22 (Nat.le_refl _) hb24
    clear b22 hb24
    obtain ⟨s', t', x', rfl, hR', hss, hrun⟩ := HP.out a hA
    have ht := fun w => ssRun_any s' t' x' 64 w hR' (by omega)
    rw [hrun, show ((64 : Nat) : Int) = 64 from rfl] at ht
    have HAA := Lib.hid hA
    have hle : (s' : Int) ≤ (s : Int) := by omega
    clear hA hR' hrun hss hR
    have HT := Lib.hid ht
    clear ht
    unfold RegAns.val
    obtain ⟨V27, hb29, F30, hV31⟩ : ∃ V, Below w23.heap.size w23 V ∧ RegAt V w23.heap.size s' t' x' ∧ w23.alloc (.cells #[.int .i64 s', .int .i64 t', .int .i64 x'] 24) = V := ⟨_, (Below.refl _ w23).alloc (Nat.le_refl _) _, RegAt.new w23 _ s' t' x', rfl⟩
    have F33 := F25.below hb29 F25.2.2.2
    clear F25
    have b34 := below_then b26 (Nat.le_refl _) hb29
    clear b26 hb29
    obtain ⟨k28, hk32⟩ : ∃ k, w23.heap.size = k := ⟨_, rfl⟩
    rw [hk32] at F30
    obtain ⟨cr0, cr1, cr2, crl⟩ := id F33
    obtain ⟨cx0, cx1, cx2, cxl⟩ := id F30
    go_wp2_with fail
    clear cr0 cr1 cr2 crl cx0 cx1 cx2 cxl hV31 hk32
    refine (HB.out _).mono ?_
    rintro e w35 ⟨b, hB, rfl, hb36⟩
    have F37 := F33.below hb36 F33.2.2.2
    clear F33
    have F38 := F30.below hb36 F30.2.2.2
    clear F30
    have b39 := below_then b34 (Nat.le_refl _) hb36
    clear b34 hb36
    obtain rfl := HO.out _ _ HAA.out hB
    clear hB HAA HO HP
    unfold RegAns.val
    obtain ⟨V40, hb42, F43, hV44⟩ : ∃ V, Below w35.heap.size w35 V ∧ RegAt V w35.heap.size s' t' x' ∧ w35.alloc (.cells #[.int .i64 s', .int .i64 t', .int .i64 x'] 24) = V := ⟨_, (Below.refl _ w35).alloc (Nat.le_refl _) _, RegAt.new w35 _ s' t' x', rfl⟩
    have F46 := F37.below hb42 F37.2.2.2
    clear F37
    have F47 := F38.below hb42 F38.2.2.2
    clear F38
    have b48 := below_then b39 (Nat.le_refl _) hb42
    clear b39 hb42
    obtain ⟨k41, hk45⟩ : ∃ k, w35.heap.size = k := ⟨_, rfl⟩
    rw [hk45] at F43
    go_wp2_with fail
    clear hV44 hk45
    obtain ⟨cr0, cr1, cr2, crl⟩ := id F46
    obtain ⟨cx0, cx1, cx2, cxl⟩ := id F47
    obtain ⟨cq0, cq1, cq2, cql⟩ := id F43
    have r0 := Below.refl V40.heap.size V40
    have q0 : Below V40.heap.size V40 V40.drew := r0.drew
    have hQ : ∀ wx, Below V40.heap.size V40 wx → wx.cell? ⟨W1.heap.size, 0, none⟩ = some (.int .i64 s) ∧ wx.cell? ⟨W1.heap.size, 1, none⟩ = some (.int .i64 t) ∧ wx.cell? ⟨W1.heap.size, 2, none⟩ = some (.int .i64 x) ∧ wx.cell? ⟨k28, 0, none⟩ = some (.int .i64 s') ∧ wx.cell? ⟨k28, 1, none⟩ = some (.int .i64 t') ∧ wx.cell? ⟨k28, 2, none⟩ = some (.int .i64 x') ∧ wx.cell? ⟨k41, 0, none⟩ = some (.int .i64 s') ∧ wx.cell? ⟨k41, 1, none⟩ = some (.int .i64 t') ∧ wx.cell? ⟨k41, 2, none⟩ = some (.int .i64 x') := fun wx hb => ⟨(hb.cell (p := ⟨W1.heap.size, 0, none⟩) crl).trans cr0, (hb.cell (p := ⟨W1.heap.size, 1, none⟩) crl).trans cr1, (hb.cell (p := ⟨W1.heap.size, 2, none⟩) crl).trans cr2, (hb.cell (p := ⟨k28, 0, none⟩) cxl).trans cx0, (hb.cell (p := ⟨k28, 1, none⟩) cxl).trans cx1, (hb.cell (p := ⟨k28, 2, none⟩) cxl).trans cx2, (hb.cell (p := ⟨k41, 0, none⟩) cql).trans cq0, (hb.cell (p := ⟨k41, 1, none⟩) cql).trans cq1, (hb.cell (p := ⟨k41, 2, none⟩) cql).trans cq2⟩
    have HQ9 := Lib.hid hQ
    clear hQ
    go_region_held3 (fun wx => Below V40.heap.size V40 wx ∧ wx.cell? ⟨W1.heap.size, 0, none⟩ = some (.int .i64 s) ∧ wx.cell? ⟨W1.heap.size, 1, none⟩ = some (.int .i64 t) ∧ wx.cell? ⟨W1.heap.size, 2, none⟩ = some (.int .i64 x) ∧ wx.cell? ⟨k28, 0, none⟩ = some (.int .i64 s') ∧ wx.cell? ⟨k28, 1, none⟩ = some (.int .i64 t') ∧ wx.cell? ⟨k28, 2, none⟩ = some (.int .i64 x') ∧ wx.cell? ⟨k41, 0, none⟩ = some (.int .i64 s') ∧ wx.cell? ⟨k41, 1, none⟩ = some (.int .i64 t') ∧ wx.cell? ⟨k41, 2, none⟩ = some (.int .i64 x')) (first | exact ⟨k2, HQ9.out _ k2⟩ | exact ⟨k1, HQ9.out _ k1⟩ | exact ⟨q0, HQ9.out _ q0⟩) (first | (go_at_call 19; ((with_reducible refine (HT.out _).mono ?_); rintro e w5 ⟨rfl, hB⟩; have k1 := below_then q0 (Nat.le_refl _) hB)) | (go_at_call 19; ((with_reducible refine (HQ.out _).mono ?_); rintro e w6 ⟨rfl, hB⟩; have k2 := below_then k1 (Nat.le_refl _) hB)))
    all_goals
      have bz := below_then b48 (Nat.le_refl _) k2
      go_wp2
      go_ret
      exact ⟨rfl, bz⟩
end Go.Proofs.Ytmmonhagceacjaa
