/- The walk of the law FnAddRegisters. -/
import Derived.Test.YtmmonhagceacjaaDrawAdd
import Derived.Test.YtmmonhagceacjaaAddMath
import Derived.Test.YtmmonhagceacjaaSsRun
import Derived.Test.YtmmonhagceacjaaSsStr
import Derived.Test.YtmmonhagceacjaaStepR
import Derived.Deep.RegionHeld3
namespace Go.Proofs.Ytmmonhagceacjaa
open Go.RowKit
set_option linter.unusedVariables false
set_option maxHeartbeats 3200000 in
set_option maxRecDepth 100000 in
theorem fnAddRegisters_walk (a0 : Option Addr) (len0 cap0 : Nat) (z0 : List Int) (w : World) (w0 : IsBytes w a0 len0 cap0 z0) :
    Calls Try.prog 5 #[.slice a0 len0 cap0] w fun e w' => e = .returned (.bool true) ∧ Below w.heap.size w w' := by
  by_cases hl0 : 1048576 < len0
  · go_enter Try.func5, Try.ntmps5
    go_wp2
    go_ret
    exact ⟨rfl, Below.refl _ _⟩
  go_enter Try.func5, Try.ntmps5
  go_wp2_with fail
  refine (drawAdd_any a0 len0 cap0 z0 _ w0).mono ?_
  rintro e W1 ⟨S, T, X, S', T', X', rfl, bc⟩
  clear w0
  have hi := fun w => iAddR_any S T X S' T' X' w
  have hs := fun w => sAddR_any S T X S' T' X' w
  rcases addRAns_cases S T X S' T' X' with hc | ⟨s, t, x, y, rfl, rfl, rfl, rfl, rfl, rfl, hx, hy⟩
  · skip
    rw [hc] at hi hs
    unfold noReg RegAns.val at hi hs
    clear hc
    have HI := Lib.hid hi
    have HS := Lib.hid hs
    clear hi hs
    have hb1 := (Below.refl W1.heap.size W1).alloc (Nat.le_refl _) (.cells #[.int .i64 S, .int .i64 T, .int .i64 X] 24)
    have F2 := RegAt.new W1 24 S T X
    have b3 := below_then bc (Nat.le_refl _) hb1
    clear bc hb1
    have hb4 := (Below.refl (W1.alloc (.cells #[.int .i64 S, .int .i64 T, .int .i64 X] 24)).heap.size (W1.alloc (.cells #[.int .i64 S, .int .i64 T, .int .i64 X] 24))).alloc (Nat.le_refl _) (.cells #[.int .i64 S', .int .i64 T', .int .i64 X'] 24)
    have F5 := RegAt.new (W1.alloc (.cells #[.int .i64 S, .int .i64 T, .int .i64 X] 24)) 24 S' T' X'
    have e6 : (W1.alloc (.cells #[.int .i64 S, .int .i64 T, .int .i64 X] 24)).heap.size = W1.heap.size + 1 := by simp
    rw [e6] at F5
    clear e6
    have F7 := F2.below hb4 F2.2.2.2
    clear F2
    have b8 := below_then b3 (Nat.le_refl _) hb4
    clear b3 hb4
    obtain ⟨ca0, ca1, ca2, cal⟩ := id F7
    obtain ⟨cb0, cb1, cb2, cbl⟩ := id F5
    go_wp2_with fail
    clear ca0 ca1 ca2 cal cb0 cb1 cb2 cbl
    refine (HI.out _).mono ?_
    rintro e w9 ⟨rfl, hb10⟩
    have F11 := F7.below hb10 F7.2.2.2
    clear F7
    have F12 := F5.below hb10 F5.2.2.2
    clear F5
    have b13 := below_then b8 (Nat.le_refl _) hb10
    clear b8 hb10
    have hb14 := (Below.refl w9.heap.size w9).alloc (Nat.le_refl _) (.cells #[.int .i64 0, .int .i64 0, .int .i64 0] 24)
    have F15 := RegAt.new w9 24 0 0 0
    have F16 := F11.below hb14 F11.2.2.2
    clear F11
    have F17 := F12.below hb14 F12.2.2.2
    clear F12
    have b18 := below_then b13 (Nat.le_refl _) hb14
    clear b13 hb14
    obtain ⟨ca0, ca1, ca2, cal⟩ := id F16
    obtain ⟨cb0, cb1, cb2, cbl⟩ := id F17
    obtain ⟨cr0, cr1, cr2, crl⟩ := id F15
    go_wp2_with fail
    clear ca0 ca1 ca2 cal cb0 cb1 cb2 cbl cr0 cr1 cr2 crl
    refine (HS.out _).mono ?_
    rintro e w19 ⟨rfl, hb20⟩
    have F21 := F16.below hb20 F16.2.2.2
    clear F16
    have F22 := F17.below hb20 F17.2.2.2
    clear F17
    have F23 := F15.below hb20 F15.2.2.2
    clear F15
    have b24 := below_then b18 (Nat.le_refl _) hb20
    clear b18 hb20
    have hb25 := (Below.refl w19.heap.size w19).alloc (Nat.le_refl _) (.cells #[.int .i64 0, .int .i64 0, .int .i64 0] 24)
    have F26 := RegAt.new w19 24 0 0 0
    have F27 := F21.below hb25 F21.2.2.2
    clear F21
    have F28 := F22.below hb25 F22.2.2.2
    clear F22
    have F29 := F23.below hb25 F23.2.2.2
    clear F23
    have b30 := below_then b24 (Nat.le_refl _) hb25
    clear b24 hb25
    obtain ⟨ca0, ca1, ca2, cal⟩ := id F27
    obtain ⟨cb0, cb1, cb2, cbl⟩ := id F28
    obtain ⟨cr0, cr1, cr2, crl⟩ := id F29
    obtain ⟨cq0, cq1, cq2, cql⟩ := id F26
    go_wp2
    go_ret
    exact ⟨rfl, b30⟩
  · skip
    rw [addRAns_same hx hy] at hi hs
    have hz := hx.xor hy
    have hk := fun w => iAddR_any s t (x ^^^ y : Nat) s t y w
    rw [addRAns_same hz hy, xor_back] at hk
    have ha := fun w => stepR_yes s t x w hx
    have hb := fun w => stepR_yes s t y w hy
    have hd := fun w => stepR_yes s t (x ^^^ y) w hz
    have he := fun w => iAddR_any s t (stepN s t x : Nat) s t (stepN s t y : Nat) w
    rw [addRAns_same hx.step hy.step, ← step_xor hx hy] at he
    have hf := fun w => ssRun_any s t x 40 w hx (by omega)
    have hg := fun w => ssRun_any s t y 40 w hy (by omega)
    have hh := fun w => ssRun_any s t (x ^^^ y) 40 w hz (by omega)
    have hj := fun w => ssXor_any (runS s t x 40) (runS s t y 40) w (okB_run _ _ _ _) (okB_run _ _ _ _) (by rw [runS_size, runS_size]) (by rw [runS_size]; omega)
    rw [addS_run hx hy] at hj
    rw [show ((40 : Nat) : Int) = 40 from rfl] at hf hg hh
    obtain ⟨A, eA⟩ : ∃ v, runS s t x 40 = v := ⟨_, rfl⟩
    rw [eA] at hf hj
    clear eA
    obtain ⟨B, eB⟩ : ∃ v, runS s t y 40 = v := ⟨_, rfl⟩
    rw [eB] at hg hj
    clear eB
    obtain ⟨D, eD⟩ : ∃ v, runS s t (x ^^^ y) 40 = v := ⟨_, rfl⟩
    rw [eD] at hh hj
    clear eD
    obtain ⟨x1, ex1⟩ : ∃ v, stepN s t x = v := ⟨_, rfl⟩
    rw [ex1] at ha he
    clear ex1
    obtain ⟨y1, ey1⟩ : ∃ v, stepN s t y = v := ⟨_, rfl⟩
    rw [ey1] at hb he
    clear ey1
    obtain ⟨z1, ez1⟩ : ∃ v, stepN s t (x ^^^ y) = v := ⟨_, rfl⟩
    rw [ez1] at hd he
    clear ez1
    obtain ⟨z, ez⟩ : ∃ v, x ^^^ y = v := ⟨_, rfl⟩
    rw [ez] at hi hs hk hd hh
    clear ez
    unfold RegAns.val at hi hs hk he
    clear hx hy hz
    have HI := Lib.hid hi
    have HS := Lib.hid hs
    have HK := Lib.hid hk
    have HA := Lib.hid ha
    have HB := Lib.hid hb
    have HD := Lib.hid hd
    have HE := Lib.hid he
    have HF := Lib.hid hf
    have HG := Lib.hid hg
    have HH := Lib.hid hh
    have HJ := Lib.hid hj
    clear hi hs hk ha hb hd he hf hg hh hj
    have hb31 := (Below.refl W1.heap.size W1).alloc (Nat.le_refl _) (.cells #[.int .i64 s, .int .i64 t, .int .i64 x] 24)
    have F32 := RegAt.new W1 24 s t x
    have b33 := below_then bc (Nat.le_refl _) hb31
    clear bc hb31
    have hb34 := (Below.refl (W1.alloc (.cells #[.int .i64 s, .int .i64 t, .int .i64 x] 24)).heap.size (W1.alloc (.cells #[.int .i64 s, .int .i64 t, .int .i64 x] 24))).alloc (Nat.le_refl _) (.cells #[.int .i64 s, .int .i64 t, .int .i64 y] 24)
    have F35 := RegAt.new (W1.alloc (.cells #[.int .i64 s, .int .i64 t, .int .i64 x] 24)) 24 s t y
    have e36 : (W1.alloc (.cells #[.int .i64 s, .int .i64 t, .int .i64 x] 24)).heap.size = W1.heap.size + 1 := by simp
    rw [e36] at F35
    clear e36
    have F37 := F32.below hb34 F32.2.2.2
    clear F32
    have b38 := below_then b33 (Nat.le_refl _) hb34
    clear b33 hb34
    obtain ⟨ca0, ca1, ca2, cal⟩ := id F37
    obtain ⟨cb0, cb1, cb2, cbl⟩ := id F35
    go_wp2_with fail
    clear ca0 ca1 ca2 cal cb0 cb1 cb2 cbl
    refine (HI.out _).mono ?_
    rintro e w39 ⟨rfl, hb40⟩
    have F41 := F37.below hb40 F37.2.2.2
    clear F37
    have F42 := F35.below hb40 F35.2.2.2
    clear F35
    have b43 := below_then b38 (Nat.le_refl _) hb40
    clear b38 hb40
    obtain ⟨V44, hb46, F47, hV48⟩ : ∃ V, Below w39.heap.size w39 V ∧ RegAt V w39.heap.size s t z ∧ w39.alloc (.cells #[.int .i64 s, .int .i64 t, .int .i64 z] 24) = V := ⟨_, (Below.refl _ w39).alloc (Nat.le_refl _) _, RegAt.new w39 _ s t z, rfl⟩
    have F50 := F41.below hb46 F41.2.2.2
    clear F41
    have F51 := F42.below hb46 F42.2.2.2
    clear F42
    have b52 := below_then b43 (Nat.le_refl _) hb46
    clear b43 hb46
    obtain ⟨k45, hk49⟩ : ∃ k, w39.heap.size = k := ⟨_, rfl⟩
    rw [hk49] at F47
    obtain ⟨ca0, ca1, ca2, cal⟩ := id F50
    obtain ⟨cb0, cb1, cb2, cbl⟩ := id F51
    obtain ⟨cr0, cr1, cr2, crl⟩ := id F47
    go_wp2_with fail
    clear ca0 ca1 ca2 cal cb0 cb1 cb2 cbl cr0 cr1 cr2 crl hV48 hk49
    refine (HS.out _).mono ?_
    rintro e w53 ⟨rfl, hb54⟩
    have F55 := F50.below hb54 F50.2.2.2
    clear F50
    have F56 := F51.below hb54 F51.2.2.2
    clear F51
    have F57 := F47.below hb54 F47.2.2.2
    clear F47
    have b58 := below_then b52 (Nat.le_refl _) hb54
    clear b52 hb54
    obtain ⟨V59, hb61, F62, hV63⟩ : ∃ V, Below w53.heap.size w53 V ∧ RegAt V w53.heap.size s t z ∧ w53.alloc (.cells #[.int .i64 s, .int .i64 t, .int .i64 z] 24) = V := ⟨_, (Below.refl _ w53).alloc (Nat.le_refl _) _, RegAt.new w53 _ s t z, rfl⟩
    have F65 := F55.below hb61 F55.2.2.2
    clear F55
    have F66 := F56.below hb61 F56.2.2.2
    clear F56
    have F67 := F57.below hb61 F57.2.2.2
    clear F57
    have b68 := below_then b58 (Nat.le_refl _) hb61
    clear b58 hb61
    obtain ⟨k60, hk64⟩ : ∃ k, w53.heap.size = k := ⟨_, rfl⟩
    rw [hk64] at F62
    obtain ⟨ca0, ca1, ca2, cal⟩ := id F65
    obtain ⟨cb0, cb1, cb2, cbl⟩ := id F66
    obtain ⟨cr0, cr1, cr2, crl⟩ := id F67
    obtain ⟨cq0, cq1, cq2, cql⟩ := id F62
    go_wp2_with fail
    clear ca0 ca1 ca2 cal cb0 cb1 cb2 cbl cr0 cr1 cr2 crl cq0 cq1 cq2 cql hV63 hk64
    refine (HK.out _).mono ?_
    rintro e w69 ⟨rfl, hb70⟩
    have F71 := F65.below hb70 F65.2.2.2
    clear F65
    have F72 := F66.below hb70 F66.2.2.2
    clear F66
    have F73 := F67.below hb70 F67.2.2.2
    clear F67
    have F74 := F62.below hb70 F62.2.2.2
    clear F62
    have b75 := below_then b68 (Nat.le_refl _) hb70
    clear b68 hb70
    clear F74
    obtain ⟨V76, hb78, F79, hV80⟩ : ∃ V, Below w69.heap.size w69 V ∧ RegAt V w69.heap.size s t x ∧ w69.alloc (.cells #[.int .i64 s, .int .i64 t, .int .i64 x] 24) = V := ⟨_, (Below.refl _ w69).alloc (Nat.le_refl _) _, RegAt.new w69 _ s t x, rfl⟩
    have F82 := F71.below hb78 F71.2.2.2
    clear F71
    have F83 := F72.below hb78 F72.2.2.2
    clear F72
    have F84 := F73.below hb78 F73.2.2.2
    clear F73
    have b85 := below_then b75 (Nat.le_refl _) hb78
    clear b75 hb78
    obtain ⟨k77, hk81⟩ : ∃ k, w69.heap.size = k := ⟨_, rfl⟩
    rw [hk81] at F79
    obtain ⟨ca0, ca1, ca2, cal⟩ := id F82
    obtain ⟨cb0, cb1, cb2, cbl⟩ := id F83
    obtain ⟨cr0, cr1, cr2, crl⟩ := id F84
    obtain ⟨ck0, ck1, ck2, ckl⟩ := id F79
    go_wp2_with fail
    clear ca0 ca1 ca2 cal cb0 cb1 cb2 cbl cr0 cr1 cr2 crl ck0 ck1 ck2 ckl hV80 hk81
    refine (HA.out _).mono ?_
    rintro e w86 ⟨rfl, hb87⟩
    have F88 := F82.below hb87 F82.2.2.2
    clear F82
    have F89 := F83.below hb87 F83.2.2.2
    clear F83
    have F90 := F84.below hb87 F84.2.2.2
    clear F84
    have F91 := F79.below hb87 F79.2.2.2
    clear F79
    have b92 := below_then b85 (Nat.le_refl _) hb87
    clear b85 hb87
    obtain ⟨V93, hb95, F96, hV97⟩ : ∃ V, Below w86.heap.size w86 V ∧ RegAt V w86.heap.size s t x1 ∧ w86.alloc (.cells #[.int .i64 s, .int .i64 t, .int .i64 x1] 24) = V := ⟨_, (Below.refl _ w86).alloc (Nat.le_refl _) _, RegAt.new w86 _ s t x1, rfl⟩
    have F99 := F88.below hb95 F88.2.2.2
    clear F88
    have F100 := F89.below hb95 F89.2.2.2
    clear F89
    have F101 := F90.below hb95 F90.2.2.2
    clear F90
    have F102 := F91.below hb95 F91.2.2.2
    clear F91
    have b103 := below_then b92 (Nat.le_refl _) hb95
    clear b92 hb95
    obtain ⟨k94, hk98⟩ : ∃ k, w86.heap.size = k := ⟨_, rfl⟩
    rw [hk98] at F96
    obtain ⟨ca0, ca1, ca2, cal⟩ := id F99
    obtain ⟨cb0, cb1, cb2, cbl⟩ := id F100
    obtain ⟨cr0, cr1, cr2, crl⟩ := id F101
    obtain ⟨ck0, ck1, ck2, ckl⟩ := id F102
    obtain ⟨cx0, cx1, cx2, cxl⟩ := id F96
    go_wp2_with fail
    clear ca0 ca1 ca2 cal cb0 cb1 cb2 cbl cr0 cr1 cr2 crl ck0 ck1 ck2 ckl cx0 cx1 cx2 cxl hV97 hk98
    refine (HB.out _).mono ?_
    rintro e w104 ⟨rfl, hb105⟩
    have F106 := F99.below hb105 F99.2.2.2
    clear F99
    have F107 := F100.below hb105 F100.2.2.2
    clear F100
    have F108 := F101.below hb105 F101.2.2.2
    clear F101
    have F109 := F102.below hb105 F102.2.2.2
    clear F102
    have F110 := F96.below hb105 F96.2.2.2
    clear F96
    have b111 := below_then b103 (Nat.le_refl _) hb105
    clear b103 hb105
    obtain ⟨V112, hb114, F115, hV116⟩ : ∃ V, Below w104.heap.size w104 V ∧ RegAt V w104.heap.size s t y1 ∧ w104.alloc (.cells #[.int .i64 s, .int .i64 t, .int .i64 y1] 24) = V := ⟨_, (Below.refl _ w104).alloc (Nat.le_refl _) _, RegAt.new w104 _ s t y1, rfl⟩
    have F118 := F106.below hb114 F106.2.2.2
    clear F106
    have F119 := F107.below hb114 F107.2.2.2
    clear F107
    have F120 := F108.below hb114 F108.2.2.2
    clear F108
    have F121 := F109.below hb114 F109.2.2.2
    clear F109
    have F122 := F110.below hb114 F110.2.2.2
    clear F110
    have b123 := below_then b111 (Nat.le_refl _) hb114
    clear b111 hb114
    obtain ⟨k113, hk117⟩ : ∃ k, w104.heap.size = k := ⟨_, rfl⟩
    rw [hk117] at F115
    obtain ⟨ca0, ca1, ca2, cal⟩ := id F118
    obtain ⟨cb0, cb1, cb2, cbl⟩ := id F119
    obtain ⟨cr0, cr1, cr2, crl⟩ := id F120
    obtain ⟨ck0, ck1, ck2, ckl⟩ := id F121
    obtain ⟨cx0, cx1, cx2, cxl⟩ := id F122
    obtain ⟨cy0, cy1, cy2, cyl⟩ := id F115
    go_wp2_with fail
    clear ca0 ca1 ca2 cal cb0 cb1 cb2 cbl cr0 cr1 cr2 crl ck0 ck1 ck2 ckl cx0 cx1 cx2 cxl cy0 cy1 cy2 cyl hV116 hk117
    refine (HD.out _).mono ?_
    rintro e w124 ⟨rfl, hb125⟩
    have F126 := F118.below hb125 F118.2.2.2
    clear F118
    have F127 := F119.below hb125 F119.2.2.2
    clear F119
    have F128 := F120.below hb125 F120.2.2.2
    clear F120
    have F129 := F121.below hb125 F121.2.2.2
    clear F121
    have F130 := F122.below hb125 F122.2.2.2
    clear F122
    have F131 := F115.below hb125 F115.2.2.2
    clear F115
    have b132 := below_then b123 (Nat.le_refl _) hb125
    clear b123 hb125
    obtain ⟨V133, hb135, F136, hV137⟩ : ∃ V, Below w124.heap.size w124 V ∧ RegAt V w124.heap.size s t z1 ∧ w124.alloc (.cells #[.int .i64 s, .int .i64 t, .int .i64 z1] 24) = V := ⟨_, (Below.refl _ w124).alloc (Nat.le_refl _) _, RegAt.new w124 _ s t z1, rfl⟩
    have F139 := F126.below hb135 F126.2.2.2
    clear F126
    have F140 := F127.below hb135 F127.2.2.2
    clear F127
    have F141 := F128.below hb135 F128.2.2.2
    clear F128
    have F142 := F129.below hb135 F129.2.2.2
    clear F129
    have F143 := F130.below hb135 F130.2.2.2
    clear F130
    have F144 := F131.below hb135 F131.2.2.2
    clear F131
    have b145 := below_then b132 (Nat.le_refl _) hb135
    clear b132 hb135
    obtain ⟨k134, hk138⟩ : ∃ k, w124.heap.size = k := ⟨_, rfl⟩
    rw [hk138] at F136
    obtain ⟨ca0, ca1, ca2, cal⟩ := id F139
    obtain ⟨cb0, cb1, cb2, cbl⟩ := id F140
    obtain ⟨cr0, cr1, cr2, crl⟩ := id F141
    obtain ⟨ck0, ck1, ck2, ckl⟩ := id F142
    obtain ⟨cx0, cx1, cx2, cxl⟩ := id F143
    obtain ⟨cy0, cy1, cy2, cyl⟩ := id F144
    obtain ⟨cz0, cz1, cz2, czl⟩ := id F136
    go_wp2_with fail
    clear ca0 ca1 ca2 cal cb0 cb1 cb2 cbl cr0 cr1 cr2 crl ck0 ck1 ck2 ckl cx0 cx1 cx2 cxl cy0 cy1 cy2 cyl cz0 cz1 cz2 czl hV137 hk138
    refine (HE.out _).mono ?_
    rintro e w146 ⟨rfl, hb147⟩
    have F148 := F139.below hb147 F139.2.2.2
    clear F139
    have F149 := F140.below hb147 F140.2.2.2
    clear F140
    have F150 := F141.below hb147 F141.2.2.2
    clear F141
    have F151 := F142.below hb147 F142.2.2.2
    clear F142
    have F152 := F143.below hb147 F143.2.2.2
    clear F143
    have F153 := F144.below hb147 F144.2.2.2
    clear F144
    have F154 := F136.below hb147 F136.2.2.2
    clear F136
    have b155 := below_then b145 (Nat.le_refl _) hb147
    clear b145 hb147
    clear F152
    clear F153
    obtain ⟨V156, hb158, F159, hV160⟩ : ∃ V, Below w146.heap.size w146 V ∧ RegAt V w146.heap.size s t z1 ∧ w146.alloc (.cells #[.int .i64 s, .int .i64 t, .int .i64 z1] 24) = V := ⟨_, (Below.refl _ w146).alloc (Nat.le_refl _) _, RegAt.new w146 _ s t z1, rfl⟩
    have F162 := F148.below hb158 F148.2.2.2
    clear F148
    have F163 := F149.below hb158 F149.2.2.2
    clear F149
    have F164 := F150.below hb158 F150.2.2.2
    clear F150
    have F165 := F151.below hb158 F151.2.2.2
    clear F151
    have F166 := F154.below hb158 F154.2.2.2
    clear F154
    have b167 := below_then b155 (Nat.le_refl _) hb158
    clear b155 hb158
    obtain ⟨k157, hk161⟩ : ∃ k, w146.heap.size = k := ⟨_, rfl⟩
    rw [hk161] at F159
    go_wp2_with fail
    clear hV160 hk161
    obtain ⟨ca0, ca1, ca2, cal⟩ := id F162
    obtain ⟨cb0, cb1, cb2, cbl⟩ := id F163
    obtain ⟨cr0, cr1, cr2, crl⟩ := id F164
    obtain ⟨ck0, ck1, ck2, ckl⟩ := id F165
    obtain ⟨cz0, cz1, cz2, czl⟩ := id F166
    obtain ⟨ce0, ce1, ce2, cel⟩ := id F159
    have q0 : Below V156.heap.size V156 V156.drew := (Below.refl V156.heap.size V156).drew
    have hQ : ∀ wx, Below V156.heap.size V156 wx → wx.cell? ⟨W1.heap.size, 0, none⟩ = some (.int .i64 s) ∧ wx.cell? ⟨W1.heap.size, 1, none⟩ = some (.int .i64 t) ∧ wx.cell? ⟨W1.heap.size, 2, none⟩ = some (.int .i64 x) ∧ wx.cell? ⟨(W1.heap.size + 1), 0, none⟩ = some (.int .i64 s) ∧ wx.cell? ⟨(W1.heap.size + 1), 1, none⟩ = some (.int .i64 t) ∧ wx.cell? ⟨(W1.heap.size + 1), 2, none⟩ = some (.int .i64 y) ∧ wx.cell? ⟨k45, 0, none⟩ = some (.int .i64 s) ∧ wx.cell? ⟨k45, 1, none⟩ = some (.int .i64 t) ∧ wx.cell? ⟨k45, 2, none⟩ = some (.int .i64 z) ∧ wx.cell? ⟨k77, 0, none⟩ = some (.int .i64 s) ∧ wx.cell? ⟨k77, 1, none⟩ = some (.int .i64 t) ∧ wx.cell? ⟨k77, 2, none⟩ = some (.int .i64 x) ∧ wx.cell? ⟨k134, 0, none⟩ = some (.int .i64 s) ∧ wx.cell? ⟨k134, 1, none⟩ = some (.int .i64 t) ∧ wx.cell? ⟨k134, 2, none⟩ = some (.int .i64 z1) ∧ wx.cell? ⟨k157, 0, none⟩ = some (.int .i64 s) ∧ wx.cell? ⟨k157, 1, none⟩ = some (.int .i64 t) ∧ wx.cell? ⟨k157, 2, none⟩ = some (.int .i64 z1) := fun wx hb => ⟨(hb.cell (p := ⟨W1.heap.size, 0, none⟩) cal).trans ca0, (hb.cell (p := ⟨W1.heap.size, 1, none⟩) cal).trans ca1, (hb.cell (p := ⟨W1.heap.size, 2, none⟩) cal).trans ca2, (hb.cell (p := ⟨(W1.heap.size + 1), 0, none⟩) cbl).trans cb0, (hb.cell (p := ⟨(W1.heap.size + 1), 1, none⟩) cbl).trans cb1, (hb.cell (p := ⟨(W1.heap.size + 1), 2, none⟩) cbl).trans cb2, (hb.cell (p := ⟨k45, 0, none⟩) crl).trans cr0, (hb.cell (p := ⟨k45, 1, none⟩) crl).trans cr1, (hb.cell (p := ⟨k45, 2, none⟩) crl).trans cr2, (hb.cell (p := ⟨k77, 0, none⟩) ckl).trans ck0, (hb.cell (p := ⟨k77, 1, none⟩) ckl).trans ck1, (hb.cell (p := ⟨k77, 2, none⟩) ckl).trans ck2, (hb.cell (p := ⟨k134, 0, none⟩) czl).trans cz0, (hb.cell (p := ⟨k134, 1, none⟩) czl).trans cz1, (hb.cell (p := ⟨k134, 2, none⟩) czl).trans cz2, (hb.cell (p := ⟨k157, 0, none⟩) cel).trans ce0, (hb.cell (p := ⟨k157, 1, none⟩) cel).trans ce1, (hb.cell (p := ⟨k157, 2, none⟩) cel).trans ce2⟩
    have HQ9 := Lib.hid hQ
    clear hQ
    go_region_held3 (fun wx => Below V156.heap.size V156 wx ∧ wx.cell? ⟨W1.heap.size, 0, none⟩ = some (.int .i64 s) ∧ wx.cell? ⟨W1.heap.size, 1, none⟩ = some (.int .i64 t) ∧ wx.cell? ⟨W1.heap.size, 2, none⟩ = some (.int .i64 x) ∧ wx.cell? ⟨(W1.heap.size + 1), 0, none⟩ = some (.int .i64 s) ∧ wx.cell? ⟨(W1.heap.size + 1), 1, none⟩ = some (.int .i64 t) ∧ wx.cell? ⟨(W1.heap.size + 1), 2, none⟩ = some (.int .i64 y) ∧ wx.cell? ⟨k45, 0, none⟩ = some (.int .i64 s) ∧ wx.cell? ⟨k45, 1, none⟩ = some (.int .i64 t) ∧ wx.cell? ⟨k45, 2, none⟩ = some (.int .i64 z) ∧ wx.cell? ⟨k77, 0, none⟩ = some (.int .i64 s) ∧ wx.cell? ⟨k77, 1, none⟩ = some (.int .i64 t) ∧ wx.cell? ⟨k77, 2, none⟩ = some (.int .i64 x) ∧ wx.cell? ⟨k134, 0, none⟩ = some (.int .i64 s) ∧ wx.cell? ⟨k134, 1, none⟩ = some (.int .i64 t) ∧ wx.cell? ⟨k134, 2, none⟩ = some (.int .i64 z1) ∧ wx.cell? ⟨k157, 0, none⟩ = some (.int .i64 s) ∧ wx.cell? ⟨k157, 1, none⟩ = some (.int .i64 t) ∧ wx.cell? ⟨k157, 2, none⟩ = some (.int .i64 z1)) (first | exact ⟨k4, HQ9.out _ k4⟩ | exact ⟨k3, HQ9.out _ k3⟩ | exact ⟨k2, HQ9.out _ k2⟩ | exact ⟨k1, HQ9.out _ k1⟩ | exact ⟨q0, HQ9.out _ q0⟩) (first | (go_at_call 19; ((with_reducible refine (HH.out _).mono ?_); rintro e v0 ⟨rfl, hB⟩; have k1 := below_then q0 (Nat.le_refl _) hB)) | (go_at_call 19; ((with_reducible refine (HF.out _).mono ?_); rintro e v1 ⟨rfl, hB⟩; have k2 := below_then k1 (Nat.le_refl _) hB)) | (go_at_call 19; ((with_reducible refine (HG.out _).mono ?_); rintro e v2 ⟨rfl, hB⟩; have k3 := below_then k2 (Nat.le_refl _) hB)) | (go_at_call 24; ((with_reducible refine (HJ.out _).mono ?_); rintro e v4 ⟨rfl, hB⟩; have k4 := below_then k3 (Nat.le_refl _) hB)))
    all_goals
      have bz := below_then b167 (Nat.le_refl _) k4
      go_wp2
      go_ret
      exact ⟨rfl, bz⟩
end Go.Proofs.Ytmmonhagceacjaa
