/- The walk of the law FnGoal. -/
import Derived.Test.YtjnipbopimpggaaCel5
import Derived.Test.YtjnipbopimpggaaDrawCel3
import Derived.Deep.RegionHeld3
import Derived.BigQuiet
namespace Go.Proofs.Ytjnipbopimpggaa
open Go.RowKit
set_option linter.unusedVariables false
theorem goV_parts {c p : ByteArray} {g d T : Int} (h : 0 ≤ goV c p g d T) : stnB c p g d = true ∧ tgB T = true := by
  unfold goV at h
  cases h1 : stnB c p g d with
  | false => rw [h1] at h; simp at h
  | true =>
    rw [h1] at h
    cases h2 : tgB T with
    | false => rw [h2] at h; simp at h
    | true => exact ⟨rfl, rfl⟩
theorem goV_neg {c p : ByteArray} {g d T : Int} (h : ¬ 0 ≤ goV c p g d T) : goV c p g d T = -1 := by
  cases h1 : stnB c p g d with
  | false => exact (goV_no h1).symm
  | true =>
    cases h2 : tgB T with
    | false => exact (goV_out h2).symm
    | true =>
      rw [← goV_yes h1 h2] at h
      obtain ⟨t0, t1⟩ := (tg_iff T).1 h2
      obtain ⟨-, -, -, -, d0, d1⟩ := (stnB_iff _ _ _ _).1 h1
      exact absurd (mul_goal t0 t1 d0 d1).1 h
theorem sg_with {c p : ByteArray} {g d x : Int} (h : stnB c p g d = true) (h0 : 0 ≤ x) (h1 : x ≤ 1000) : sgV c p x d = x / d := by
  obtain ⟨a1, a2, -, -, d0, d1⟩ := (stnB_iff _ _ _ _).1 h
  exact (sgV_yes ((stnB_iff _ _ _ _).2 ⟨a1, a2, h0, h1, d0, d1⟩)).symm
theorem quo_goal {T d : Int} (h0 : 0 ≤ T) (d0 : 1 ≤ d) : T * d / d = T := Int.mul_ediv_cancel T (by omega)
theorem quo_less {T d : Int} (h0 : 1 ≤ T) (d0 : 1 ≤ d) : (T * d - 1) / d = T - 1 := by
  have e : T * d - 1 = (d - 1) + d * (T - 1) := by rw [Int.mul_sub, Int.mul_comm d T]; omega
  rw [e, Int.add_mul_ediv_left _ _ (by omega), Int.ediv_eq_zero_of_lt (by omega) (by omega), Int.zero_add]
theorem quo_bd {g d : Int} (g0 : 0 ≤ g) (d0 : 1 ≤ d) : 0 ≤ g / d ∧ g / d * d ≤ g ∧ g < (g / d + 1) * d := by
  have h1 := Int.emod_nonneg g (show d ≠ 0 by omega)
  have h2 := Int.emod_lt_of_pos g (show 0 < d by omega)
  have h3 := Int.mul_ediv_add_emod g d
  have h4 := Int.ediv_nonneg g0 (show 0 ≤ d by omega)
  rw [Int.mul_comm] at h3
  rw [Int.add_mul]
  omega
set_option maxHeartbeats 6400000 in
set_option maxRecDepth 100000 in
theorem fnGoal_walk (a0 : Option Addr) (len0 cap0 : Nat) (z0 : List Int) (w : World) (w0 : IsBytes w a0 len0 cap0 z0) :
    Calls Try.prog 11 #[.slice a0 len0 cap0] w fun e w' => e = .returned (.bool true) ∧ Below w.heap.size w w' := by
  by_cases hl0 : 1048576 < len0
  · go_enter Try.func11, Try.ntmps11
    go_wp2
    go_ret
    exact ⟨rfl, Below.refl _ _⟩
  go_enter Try.func11, Try.ntmps11
  go_wp2_with fail
  refine (drawPowerGoal_any a0 len0 cap0 z0 _ w0).mono ?_
  rintro e w1 ⟨⟨C, E, X, Y⟩, T, rfl, ⟨f1, f2, -, -⟩, hT, b0⟩
  dsimp only at f1 f2 ⊢
  have bc := b0.alloc b0.size (.cells #[.string C, .string E, .int .i64 X, .int .i64 Y] 33)
  have u1 := UsrAt.new w1 33 C E X Y
  have HI := Lib.hid (fun w => iGoal_any C E X Y T w (by omega) (by omega))
  have HS := Lib.hid (fun w => sGoal_any C E X Y T w (by omega) (by omega))
  have HG1 := Lib.hid (fun w => iStrength_any C E X Y w (by omega) (by omega))
  have HG2 := Lib.hid (fun w => sStrength_any C E X Y w (by omega) (by omega))
  have hpar := fun h => goV_parts (c := C) (p := E) (g := X) (d := Y) (T := T) h
  have hneg := fun h => goV_neg (c := C) (p := E) (g := X) (d := Y) (T := T) h
  have hyes := fun h1 h2 => goV_yes (c := C) (p := E) (g := X) (d := Y) (T := T) h1 h2
  obtain ⟨M, hM⟩ : ∃ M, goV C E X Y T = M := ⟨_, rfl⟩
  rw [hM] at HI HS hpar hneg hyes
  clear hM b0 w0
  go_wp2_with fail
  obtain ⟨bx, hbx⟩ : ∃ b, w1.heap.size = b := ⟨_, rfl⟩
  obtain ⟨W1, hW1⟩ : ∃ W, w1.alloc (.cells #[.string C, .string E, .int .i64 X, .int .i64 Y] 33) = W := ⟨_, rfl⟩
  rw [hbx] at u1 ⊢
  rw [hW1] at bc u1 ⊢
  clear hbx hW1
  refine (HI.out _).mono ?_
  rintro e w2 ⟨rfl, n2⟩
  have b2 := below_then bc (Nat.le_refl _) n2
  have u2 := u1.below n2 u1.2.2.2.2
  clear bc u1 n2
  have r0 := Below.refl w2.heap.size w2
  obtain ⟨x0, x1, x2, x3, x4⟩ := id u2
  have e0 : (M != M) = false := by simp
  by_cases hz : 0 ≤ M
  rotate_left
  · have hM1 := hneg (by omega)
    subst hM1
    clear hpar hneg hyes
    go_wp2_with fail
    refine wp_region_held_drew (S := (fun wx => Below w2.heap.size w2 wx ∧ wx.cell? ⟨bx, 0, none⟩ = some (.string C) ∧ wx.cell? ⟨bx, 1, none⟩ = some (.string E) ∧ wx.cell? ⟨bx, 2, none⟩ = some (.int .i64 X) ∧ wx.cell? ⟨bx, 3, none⟩ = some (.int .i64 Y))) (by kernel_rfl) ⟨r0.drew, x0, x1, x2, x3⟩ (fun hHeld => ?_)
    refine wpAnyH_take (i := 0) (oi := { dst := some 20, op := Go.Op.move (Go.Operand.tmp 5), type := 3, pos := "laws.go:2724", after := #[], guard := none }) (v := ?v0g) rfl (by kernel_rfl) (by kernel_rfl) (by kernel_rfl) (fun _ _ _ h => h) (Or.inl ⟨by rfl, ?hy0g⟩) (by assumption) ?rest0g
    case hy0g => (intro w hSw; (try dsimp only at hSw); go_simp; try with_reducible rfl)
    try simp only [Act.put, List.setIfInBounds_toArray, List.set_cons_zero, List.set_cons_succ]
    refine wpAnyH_take (i := 1) (oi := { dst := some 21, op := Go.Op.load 33 (Go.Operand.tmp 3), type := 33, pos := "laws.go:2724", after := #[], guard := none }) (v := ?v1g) rfl (by kernel_rfl) (by kernel_rfl) (by kernel_rfl) (fun _ _ _ h => h) (Or.inl ⟨by rfl, ?hy1g⟩) (by assumption) ?rest1g
    case hy1g => (intro w hSw; (try dsimp only at hSw); go_simp; try with_reducible rfl)
    try simp only [Act.put, List.setIfInBounds_toArray, List.set_cons_zero, List.set_cons_succ]
    refine wpAnyH_take (i := 2) (oi := { dst := some 22, op := Go.Op.move (Go.Operand.tmp 4), type := 3, pos := "laws.go:2724", after := #[], guard := none }) (v := ?v2g) rfl (by kernel_rfl) (by kernel_rfl) (by kernel_rfl) (fun _ _ _ h => h) (Or.inl ⟨by rfl, ?hy2g⟩) (by assumption) ?rest2g
    case hy2g => (intro w hSw; (try dsimp only at hSw); go_simp; try with_reducible rfl)
    try simp only [Act.put, List.setIfInBounds_toArray, List.set_cons_zero, List.set_cons_succ]
    refine wpAnyH_ready (rs := [3]) (by kernel_rfl) (by simp) ?_
    refine AllReadyH.cons (o := { dst := some 23, op := Go.Op.call { callee := Go.Callee.value (Go.Operand.func 19), args := #[Go.Operand.tmp 21, Go.Operand.tmp 22], argTypes := #[33, 3] }, type := 3, pos := "laws.go:2724", after := #[{ on := 1, ground := Go.Ground.data }, { on := 2, ground := Go.Ground.data }], guard := none }) rfl (fun K hK => ?_) AllReadyH.nil
    go_simp
    go_at_call 19
    refine (HS.out _).mono ?_
    rintro e w5 ⟨rfl, hB⟩
    have k1 := below_then r0.drew (Nat.le_refl _) hB
    have y1 := u2.below k1 u2.2.2.2.2
    clear hB
    refine hK.out _ _ ⟨k1, y1.box⟩ (fun hHeld => ?_)
    clear hK K
    try simp only [Act.put, List.setIfInBounds_toArray, List.set_cons_zero, List.set_cons_succ]
    refine wpAnyH_take (i := 4) (oi := { dst := some 24, op := Go.Op.binOp Go.BinOp.neq 3 (Go.Operand.tmp 20) (Go.Operand.tmp 23) 3, type := 4, pos := "laws.go:2724", after := #[{ on := 0, ground := Go.Ground.data }, { on := 3, ground := Go.Ground.data }], guard := none }) (v := ?v4g) rfl (by kernel_rfl) (by kernel_rfl) (by kernel_rfl) (fun _ _ _ h => h) (Or.inl ⟨by rfl, ?hy4g⟩) (by assumption) ?rest4g
    case hy4g => (intro w hSw; (try dsimp only at hSw); go_simp; try with_reducible rfl)
    try simp only [Act.put, List.setIfInBounds_toArray, List.set_cons_zero, List.set_cons_succ]
    refine wpAnyH_take (i := 5) (oi := { dst := some 25, op := Go.Op.move (Go.Operand.tmp 24), type := 4, pos := "laws.go:2724", after := #[{ on := 4, ground := Go.Ground.data }, { on := 3, ground := Go.Ground.chain }], guard := none }) (v := ?v5g) rfl (by kernel_rfl) (by kernel_rfl) (by kernel_rfl) (fun _ _ _ h => h) (Or.inl ⟨by rfl, ?hy5g⟩) (by assumption) ?rest5g
    case hy5g => (intro w hSw; (try dsimp only at hSw); go_simp; try with_reducible rfl)
    try simp only [Act.put, List.setIfInBounds_toArray, List.set_cons_zero, List.set_cons_succ]
    refine wpAnyH_take (i := 6) (oi := { dst := some 26, op := Go.Op.move (Go.Operand.tmp 5), type := 3, pos := "laws.go:2724", after := #[{ on := 5, ground := Go.Ground.guard }], guard := some (5, false) }) (v := ?v6g) rfl (by kernel_rfl) (by kernel_rfl) (by kernel_rfl) (fun _ _ _ h => h) (Or.inl ⟨by rfl, ?hy6g⟩) (by assumption) ?rest6g
    case hy6g => (intro w hSw; (try dsimp only at hSw); go_simp; try with_reducible rfl)
    try simp only [Act.put, List.setIfInBounds_toArray, List.set_cons_zero, List.set_cons_succ]
    refine wpAnyH_take (i := 7) (oi := { dst := some 27, op := Go.Op.binOp Go.BinOp.lss 3 (Go.Operand.tmp 26) (Go.Operand.const (Go.Value.int Go.IntKind.i64 0)) 3, type := 4, pos := "laws.go:2724", after := #[{ on := 6, ground := Go.Ground.data }, { on := 5, ground := Go.Ground.guard }], guard := some (5, false) }) (v := ?v7g) rfl (by kernel_rfl) (by kernel_rfl) (by kernel_rfl) (fun _ _ _ h => h) (Or.inl ⟨by rfl, ?hy7g⟩) (by assumption) ?rest7g
    case hy7g => (intro w hSw; (try dsimp only at hSw); go_simp; try with_reducible rfl)
    try simp only [Act.put, List.setIfInBounds_toArray, List.set_cons_zero, List.set_cons_succ]
    refine wpAnyH_take (i := 8) (oi := { dst := some 28, op := Go.Op.pick (Go.Operand.tmp 25) (Go.Operand.const (Go.Value.bool true)) (Go.Operand.tmp 27), type := 4, pos := "laws.go:2724", after := #[{ on := 5, ground := Go.Ground.data }, { on := 7, ground := Go.Ground.data }], guard := none }) (v := ?v8g) rfl (by kernel_rfl) (by kernel_rfl) (by kernel_rfl) (fun _ _ _ h => h) (Or.inl ⟨by rfl, ?hy8g⟩) (by assumption) ?rest8g
    case hy8g => (intro w hSw; (try dsimp only at hSw); go_simp; try with_reducible rfl)
    try simp only [Act.put, List.setIfInBounds_toArray, List.set_cons_zero, List.set_cons_succ]
    refine wpAnyH_take (i := 9) (oi := { dst := some 29, op := Go.Op.move (Go.Operand.tmp 28), type := 4, pos := "laws.go:2724", after := #[{ on := 8, ground := Go.Ground.data }, { on := 5, ground := Go.Ground.chain }], guard := none }) (v := ?v9g) rfl (by kernel_rfl) (by kernel_rfl) (by kernel_rfl) (fun _ _ _ h => h) (Or.inl ⟨by rfl, ?hy9g⟩) (by assumption) ?rest9g
    case hy9g => (intro w hSw; (try dsimp only at hSw); go_simp; try with_reducible rfl)
    try simp only [Act.put, List.setIfInBounds_toArray, List.set_cons_zero, List.set_cons_succ]
    refine wpAnyH_take (i := 10) (oi := { dst := some 30, op := Go.Op.load 33 (Go.Operand.tmp 3), type := 33, pos := "laws.go:2724", after := #[{ on := 9, ground := Go.Ground.guard }], guard := some (9, false) }) (v := undef) rfl (by kernel_rfl) (by kernel_rfl) (by kernel_rfl) (fun _ _ _ h => h) (Or.inr ⟨by rfl, rfl⟩) (by assumption) ?_
    try simp only [Act.put, List.setIfInBounds_toArray, List.set_cons_zero, List.set_cons_succ]
    refine wpAnyH_take (i := 11) (oi := { dst := some 31, op := Go.Op.call { callee := Go.Callee.value (Go.Operand.func 23), args := #[Go.Operand.tmp 30], argTypes := #[33] }, type := 3, pos := "laws.go:2724", after := #[{ on := 10, ground := Go.Ground.data }, { on := 9, ground := Go.Ground.chain }, { on := 9, ground := Go.Ground.guard }], guard := some (9, false) }) (v := undef) rfl (by kernel_rfl) (by kernel_rfl) (by kernel_rfl) (fun _ _ _ h => h) (Or.inr ⟨by rfl, rfl⟩) (by assumption) ?_
    try simp only [Act.put, List.setIfInBounds_toArray, List.set_cons_zero, List.set_cons_succ]
    refine wpAnyH_take (i := 12) (oi := { dst := some 32, op := Go.Op.load 33 (Go.Operand.tmp 3), type := 33, pos := "laws.go:2724", after := #[{ on := 9, ground := Go.Ground.guard }], guard := some (9, false) }) (v := undef) rfl (by kernel_rfl) (by kernel_rfl) (by kernel_rfl) (fun _ _ _ h => h) (Or.inr ⟨by rfl, rfl⟩) (by assumption) ?_
    try simp only [Act.put, List.setIfInBounds_toArray, List.set_cons_zero, List.set_cons_succ]
    refine wpAnyH_take (i := 13) (oi := { dst := some 33, op := Go.Op.call { callee := Go.Callee.value (Go.Operand.func 22), args := #[Go.Operand.tmp 32], argTypes := #[33] }, type := 3, pos := "laws.go:2724", after := #[{ on := 12, ground := Go.Ground.data }, { on := 11, ground := Go.Ground.chain }, { on := 9, ground := Go.Ground.guard }], guard := some (9, false) }) (v := undef) rfl (by kernel_rfl) (by kernel_rfl) (by kernel_rfl) (fun _ _ _ h => h) (Or.inr ⟨by rfl, rfl⟩) (by assumption) ?_
    try simp only [Act.put, List.setIfInBounds_toArray, List.set_cons_zero, List.set_cons_succ]
    refine wpAnyH_take (i := 14) (oi := { dst := some 34, op := Go.Op.binOp Go.BinOp.neq 3 (Go.Operand.tmp 31) (Go.Operand.tmp 33) 3, type := 4, pos := "laws.go:2724", after := #[{ on := 11, ground := Go.Ground.data }, { on := 13, ground := Go.Ground.data }, { on := 9, ground := Go.Ground.guard }], guard := some (9, false) }) (v := undef) rfl (by kernel_rfl) (by kernel_rfl) (by kernel_rfl) (fun _ _ _ h => h) (Or.inr ⟨by rfl, rfl⟩) (by assumption) ?_
    try simp only [Act.put, List.setIfInBounds_toArray, List.set_cons_zero, List.set_cons_succ]
    refine wpAnyH_take (i := 15) (oi := { dst := some 35, op := Go.Op.pick (Go.Operand.tmp 29) (Go.Operand.const (Go.Value.bool true)) (Go.Operand.tmp 34), type := 4, pos := "laws.go:2724", after := #[{ on := 9, ground := Go.Ground.data }, { on := 14, ground := Go.Ground.data }], guard := none }) (v := ?v15g) rfl (by kernel_rfl) (by kernel_rfl) (by kernel_rfl) (fun _ _ _ h => h) (Or.inl ⟨by rfl, ?hy15g⟩) (by assumption) ?rest15g
    case hy15g => (intro w hSw; (try dsimp only at hSw); go_simp; try with_reducible rfl)
    try simp only [Act.put, List.setIfInBounds_toArray, List.set_cons_zero, List.set_cons_succ]
    refine wpAnyH_done (by kernel_rfl) ?_ _
    have b5 := below_then b2 (Nat.le_refl _) k1
    clear x0 x1 x2 x3 x4 r0 u2 b2 k1
    have r0 := Below.refl w5.heap.size w5
    obtain ⟨x0, x1, x2, x3, x4⟩ := id y1
    have HE := Lib.hid (show UsrAt w5 bx C E X Y from y1)
    clear y1
    have u5 := HE.out
    obtain ⟨v5, hv5⟩ : ∃ v, w5 = v := ⟨_, rfl⟩
    rw [hv5] at r0 x0 x1 x2 x3 x4 u5 b5 ⊢
    clear hv5 HE
    go_wp2_with fail
    go_region_held3 (fun wx => Below v5.heap.size v5 wx ∧ wx.cell? ⟨bx, 0, none⟩ = some (.string C) ∧ wx.cell? ⟨bx, 1, none⟩ = some (.string E) ∧ wx.cell? ⟨bx, 2, none⟩ = some (.int .i64 X) ∧ wx.cell? ⟨bx, 3, none⟩ = some (.int .i64 Y)) (first | exact ⟨k3, y3.box⟩ | exact ⟨k2, y2.box⟩ | exact ⟨k1, y1.box⟩ | exact ⟨r0.drew, x0, x1, x2, x3⟩) (first
      | (go_at_call 19; refine (HS.out _).mono ?_; rintro e w5 ⟨rfl, hB⟩; have k1 := below_then r0.drew (Nat.le_refl _) hB; have y1 := u5.below k1 u5.2.2.2.2; clear hB)
      | (go_at_call 23; refine (HG1.out _).mono ?_; rintro e w6 ⟨rfl, hB⟩; have k2 := below_then k1 (Nat.le_refl _) hB; have y2 := u5.below k2 u5.2.2.2.2; clear hB)
      | (go_at_call 22; refine (HG2.out _).mono ?_; rintro e w7 ⟨rfl, hB⟩; have k3 := below_then k2 (Nat.le_refl _) hB; have y3 := u5.below k3 u5.2.2.2.2; clear hB))
    all_goals
      have b7 := below_then b5 (Nat.le_refl _) k3
      go_wp2
      go_ret
      exact ⟨rfl, b7⟩
  · obtain ⟨h1, h2⟩ := hpar hz
    have hMe := hyes h1 h2
    obtain ⟨t0, t1⟩ := (tg_iff T).1 h2
    obtain ⟨-, -, g0, g1, d0, d1⟩ := (stnB_iff _ _ _ _).1 h1
    obtain ⟨m0, m1⟩ := mul_goal t0 t1 d0 d1
    have hSx := sg_with (x := M) h1 hz (by omega)
    rw [← hMe, quo_goal t0 d0, hMe] at hSx
    have z1 : ¬ M < 0 := by omega
    have z2 : decide (M < 0) = false := decide_eq_false z1
    go_wp2_with fail
    go_region_held3 (fun wx => Below w2.heap.size w2 wx ∧ wx.cell? ⟨bx, 0, none⟩ = some (.string C) ∧ wx.cell? ⟨bx, 1, none⟩ = some (.string E) ∧ wx.cell? ⟨bx, 2, none⟩ = some (.int .i64 X) ∧ wx.cell? ⟨bx, 3, none⟩ = some (.int .i64 Y)) (first | exact ⟨k3, y3.box⟩ | exact ⟨k2, y2.box⟩ | exact ⟨k1, y1.box⟩ | exact ⟨r0.drew, x0, x1, x2, x3⟩) (first
      | (go_at_call 19; refine (HS.out _).mono ?_; rintro e w5 ⟨rfl, hB⟩; have k1 := below_then r0.drew (Nat.le_refl _) hB; have y1 := u2.below k1 u2.2.2.2.2; clear hB)
      | (go_at_call 23; refine (HG1.out _).mono ?_; rintro e w6 ⟨rfl, hB⟩; have k2 := below_then k1 (Nat.le_refl _) hB; have y2 := u2.below k2 u2.2.2.2.2; clear hB)
      | (go_at_call 22; refine (HG2.out _).mono ?_; rintro e w7 ⟨rfl, hB⟩; have k3 := below_then k2 (Nat.le_refl _) hB; have y3 := u2.below k3 u2.2.2.2.2; clear hB))
    all_goals
      have b7 := below_then b2 (Nat.le_refl _) k3
      have u7 := y3
      have hSk := sgV_yes h1
      obtain ⟨q0, q1, q2⟩ := quo_bd g0 d0
      obtain ⟨K, hK⟩ : ∃ K, X / Y = K := ⟨_, rfl⟩
      rw [hK] at hSk q0 q1 q2
      rw [← hSk] at HG1
      clear x0 x1 x2 x3 x4 y1 y2 y3 k1 k2 k3 r0 u2 b2 hK hSk
      obtain ⟨x0, x1, x2, x3, x4⟩ := id u7
      go_wp2_with fail
      obtain ⟨N, hN⟩ : ∃ N, max (M - 1) 0 = N := ⟨_, rfl⟩
      rw [hN]
      have HX1 := Lib.hid (fun w => iStrength_any C E M Y w (by omega) (by omega))
      rw [hSx] at HX1
      have ux := (UsrAt.new w7 33 C E M Y).below ((Below.refl _ _).alloc (Nat.le_refl _) (.cells #[.string C, .string E, .int .i64 N, .int .i64 Y] 33)) (by simp)
      have uy := UsrAt.new (w7.alloc (.cells #[.string C, .string E, .int .i64 M, .int .i64 Y] 33)) 33 C E N Y
      have us := (u7.below ((Below.refl _ _).alloc (Nat.le_refl _) (.cells #[.string C, .string E, .int .i64 M, .int .i64 Y] 33)) x4).below ((Below.refl _ _).alloc (Nat.le_refl _) (.cells #[.string C, .string E, .int .i64 N, .int .i64 Y] 33)) (by simp; omega)
      have bq := (b7.alloc b7.size (.cells #[.string C, .string E, .int .i64 M, .int .i64 Y] 33)).alloc (Nat.le_trans b7.size (by simp)) (.cells #[.string C, .string E, .int .i64 N, .int .i64 Y] 33)
      have hs1 : (w7.alloc (.cells #[.string C, .string E, .int .i64 M, .int .i64 Y] 33)).heap.size = w7.heap.size + 1 := by simp
      rw [hs1] at uy
      obtain ⟨gx, hgx⟩ : ∃ g, w7.heap.size = g := ⟨_, rfl⟩
      obtain ⟨W, hW⟩ : ∃ W, (w7.alloc (.cells #[.string C, .string E, .int .i64 M, .int .i64 Y] 33)).alloc (.cells #[.string C, .string E, .int .i64 N, .int .i64 Y] 33) = W := ⟨_, rfl⟩
      rw [hgx] at ux uy ⊢
      rw [hW] at ux uy us bq ⊢
      have p0 : 0 ≤ K * Y := Int.mul_nonneg q0 (by omega)
      have p2 : (K + 1) * Y = K * Y + Y := by rw [Int.add_mul, Int.one_mul]
      have p3 : (K + 1) * Y ≤ 2000 := by omega
      have p4 : 0 ≤ (K + 1) * Y := by omega
      have p5 : K ≤ 1000 := by
        have := Int.mul_le_mul_of_nonneg_left d0 q0
        omega
      have hN0 : 0 ≤ N := by omega
      have hN1 : N ≤ 1000 := by omega
      have HNM := Lib.hid hN
      clear hgx hW hs1 u7 b7 x0 x1 x2 x3 x4 p2 hN hSx
      refine (HG1.out _).mono ?_
      rintro e w8 ⟨rfl, n8⟩
      have b8 := below_then bq (Nat.le_refl _) n8
      have ux8 := ux.below n8 ux.2.2.2.2
      have uy8 := uy.below n8 uy.2.2.2.2
      have us8 := us.below n8 us.2.2.2.2
      clear ux uy us bq n8
      obtain ⟨x0, x1, x2, x3, x4⟩ := id ux8
      go_wp2_with fail
      clear x0 x1 x2 x3 x4
      refine (HX1.out _).mono ?_
      rintro e w9 ⟨rfl, n9⟩
      have b9 := below_then b8 (Nat.le_refl _) n9
      have uy9 := uy8.below n9 uy8.2.2.2.2
      have us9 := us8.below n9 us8.2.2.2.2
      clear ux8 uy8 us8 b8 n9
      by_cases hT0 : T = 0
      · subst hT0
        obtain ⟨x0, x1, x2, x3, x4⟩ := id us9
        clear hMe uy9
        go_wp2
        go_ret
        exact ⟨rfl, b9⟩
      · have e1 : (T == 0) = false := by simpa using hT0
        have hM1 : 1 ≤ M := by
          rw [← hMe]
          have := Int.mul_le_mul (show (1 : Int) ≤ T by omega) d0 (by omega : (0 : Int) ≤ 1) (by omega : (0 : Int) ≤ T)
          omega
        have hNe : N = M - 1 := by have := HNM.out; omega
        have hSy := sg_with (x := N) h1 hN0 hN1
        rw [hNe, ← hMe, quo_less (by omega) d0, hMe, ← hNe] at hSy
        have HY1 := Lib.hid (fun w => iStrength_any C E N Y w (by omega) (by omega))
        rw [hSy] at HY1
        obtain ⟨y0, y1, y2, y3, y4⟩ := id uy9
        clear hNe hSy hMe
        go_wp2_with fail
        clear y0 y1 y2 y3 y4
        refine (HY1.out _).mono ?_
        rintro e w10 ⟨rfl, n10⟩
        have b10 := below_then b9 (Nat.le_refl _) n10
        obtain ⟨x0, x1, x2, x3, x4⟩ := us9.below n10 us9.2.2.2.2
        clear us9 uy9 b9 n10
        go_wp2
        go_ret
        exact ⟨rfl, b10⟩
end Go.Proofs.Ytjnipbopimpggaa
