/- The walk of the exact law on AddRegisters. -/
import Derived.Test.YtbkppjelljljcaaRegAdd
import Derived.Test.YtbkppjelljljcaaDraw
import Derived.Deep.CutRange
import Derived.Deep.RegionHeld3
namespace Go.Proofs.Ytbkppjelljljcaa
open Go.RowKit
set_option linter.unusedVariables false
set_option maxRecDepth 100000
set_option linter.unusedSimpArgs false
/-- What the two parameters' boxes hold. -/
def Cells2 (w : World) (S T X S' T' X' : Int) (W : World) : Prop :=
  W.cell? ⟨w.heap.size, 0, none⟩ = some (.int .i64 S) ∧ W.cell? ⟨w.heap.size, 1, none⟩ = some (.int .i64 T) ∧ W.cell? ⟨w.heap.size, 2, none⟩ = some (.int .i64 X) ∧
  W.cell? ⟨w.heap.size + 1, 0, none⟩ = some (.int .i64 S') ∧ W.cell? ⟨w.heap.size + 1, 1, none⟩ = some (.int .i64 T') ∧ W.cell? ⟨w.heap.size + 1, 2, none⟩ = some (.int .i64 X')
def Keep2 (w : World) (S T X S' T' X' : Int) (W : World) : Prop := Below w.heap.size w W ∧ RegAt W w.heap.size S T X ∧ RegAt W (w.heap.size + 1) S' T' X' ∧ w.heap.size + 1 < W.heap.size
theorem Keep2.cells {w W : World} {S T X S' T' X' : Int} (h : Keep2 w S T X S' T' X' W) : Cells2 w S T X S' T' X' W :=
  ⟨h.2.1.1, h.2.1.2.1, h.2.1.2.2.1, h.2.2.1.1, h.2.2.1.2.1, h.2.2.1.2.2.1⟩
theorem Keep2.below {w W W' : World} {S T X S' T' X' : Int} (h : Keep2 w S T X S' T' X' W) (hb : Below W.heap.size W W') : Keep2 w S T X S' T' X' W' :=
  ⟨below_then h.1 (Nat.le_refl _) hb, h.2.1.below hb h.2.1.2.2.2, h.2.2.1.below hb h.2.2.1.2.2.2, Nat.lt_of_lt_of_le h.2.2.2 hb.size⟩
theorem Keep2.drew {w W : World} {S T X S' T' X' : Int} (h : Keep2 w S T X S' T' X' W) : Keep2 w S T X S' T' X' W.drew := h.below ((Below.refl _ _).drew)
theorem Keep2.alloc {w W : World} {S T X S' T' X' : Int} (h : Keep2 w S T X S' T' X' W) (o : Obj) : Keep2 w S T X S' T' X' (W.alloc o) := h.below ((Below.refl _ _).alloc (Nat.le_refl _) _)
theorem Keep2.new (w : World) (t t' : TypeId) (S T X S' T' X' : Int) : Keep2 w S T X S' T' X' ((w.alloc (.cells #[.int .i64 S, .int .i64 T, .int .i64 X] t)).alloc (.cells #[.int .i64 S', .int .i64 T', .int .i64 X'] t')) := by
  have r1 := RegAt.new w t S T X
  have r2 := RegAt.new (w.alloc (.cells #[.int .i64 S, .int .i64 T, .int .i64 X] t)) t' S' T' X'
  have s1 : (w.alloc (.cells #[.int .i64 S, .int .i64 T, .int .i64 X] t)).heap.size = w.heap.size + 1 := by simp
  rw [s1] at r2
  refine ⟨((Below.refl _ w).alloc (Nat.le_refl _) _).alloc (by simp) _, r1.below (B := w.heap.size + 1) ((Below.refl _ _).alloc (by simp) _) (by omega), r2, by simp⟩
/-- The result's box, still empty, behind the parameters' boxes. -/
structure Box3 (w W : World) (b : Nat) : Prop where
  reg : RegAt W b 0 0 0
  free : ∀ o, W.frozen? ⟨b, o, none⟩ = false
  far : w.heap.size + 1 < b
theorem Box3.box {w W : World} {b : Nat} (h : Box3 w W b) : RegAt W b 0 0 0 ∧ ∀ o, W.frozen? ⟨b, o, none⟩ = false := ⟨h.reg, h.free⟩
theorem Box3.below {w W W' : World} {b : Nat} (h : Box3 w W b) (hb : Below W.heap.size W W') : Box3 w W' b :=
  ⟨h.reg.below hb h.reg.2.2.2, fun o => (hb.frozen (p := ⟨b, o, none⟩) h.reg.2.2.2).trans (h.free o), h.far⟩
theorem Box3.new {w W : World} {S T X S' T' X' : Int} (k : Keep2 w S T X S' T' X' W) (t : TypeId) : Box3 w (W.alloc (.cells #[.int .i64 0, .int .i64 0, .int .i64 0] t)) W.heap.size :=
  ⟨RegAt.new W t 0 0 0, fun o => by simp, k.2.2.2⟩
theorem Box3.keep {w W : World} {S T X S' T' X' : Int} {b : Nat} (h : Box3 w W b) (k : Keep2 w S T X S' T' X' W) (A B C : Int) :
    Keep2 w S T X S' T' X' (((W.setCell ⟨b, 0, none⟩ (.int .i64 A)).setCell ⟨b, 1, none⟩ (.int .i64 B)).setCell ⟨b, 2, none⟩ (.int .i64 C)) := by
  obtain ⟨-, -, g⟩ := h.reg.set3 A B C
  have hf := h.far
  exact ⟨below_grown k.1 (Nat.le_refl _) g (by omega), k.2.1.kept g (by intro e; injection e with e; omega), k.2.2.1.kept g (by intro e; injection e with e; omega), Nat.lt_of_lt_of_le k.2.2.2 g.size⟩
set_option maxHeartbeats 3200000 in
theorem fnExactAddRegisters_walk (S T X S' T' X' : Int) (w : World) (_ : (Lit.int .i64 S).wf = true) (_ : (Lit.int .i64 T).wf = true) (_ : (Lit.int .i64 X).wf = true) (_ : (Lit.int .i64 S').wf = true) (_ : (Lit.int .i64 T').wf = true) (_ : (Lit.int .i64 X').wf = true) :
    Calls Try.prog 3 #[.agg #[.int .i64 S, .int .i64 T, .int .i64 X], .agg #[.int .i64 S', .int .i64 T', .int .i64 X']] w fun e w' => e = .returned (.bool true) ∧ Below w.heap.size w w' := by
  obtain ⟨⟨A0, A1, A2, ok⟩, hA⟩ : ∃ r, addRAns S T X S' T' X' = r := ⟨_, rfl⟩
  have hs := fun w => sAddR_any S T X S' T' X' w
  have hi := fun w => iAddR_any S T X S' T' X' w
  rw [hA] at hs hi
  unfold RegAns.val at hs hi
  have HS := Lib.hid hs
  have HI := Lib.hid hi
  have HT := Lib.hid (fun w => toRegister_any S T X w)
  have HT2 := Lib.hid (fun w => toRegister_any S' T' X' w)
  clear hs hi hA
  go_enter Try.func3, Try.ntmps3
  go_upto_region 1 with fail
  have k0 := Keep2.new w 23 23 S T X S' T' X'
  obtain ⟨w0, hw0⟩ : ∃ W, ((w.alloc (.cells #[.int .i64 S, .int .i64 T, .int .i64 X] 23)).alloc (.cells #[.int .i64 S', .int .i64 T', .int .i64 X'] 23)) = W := ⟨_, rfl⟩
  rw [hw0] at k0 ⊢
  clear hw0
  go_cut [5, 6] from 9 to 16 (fun x5 x6 wx => ∃ b, x5 = .pointer (some ⟨b, 0, none⟩) ∧ x6 = .bool ok ∧ Keep2 w S T X S' T' X' wx ∧ RegAt wx b A0 A1 A2)
  case first =>
    refine wp_region_held_drew (S := (fun wx => Cells2 w S T X S' T' X' wx)) (by kernel_rfl) k0.drew.cells (fun hHeld => ?_)
    have kd := k0.drew
    obtain ⟨Wd, hWd⟩ : ∃ W, w0.drew = W := ⟨_, rfl⟩
    rw [hWd] at kd hHeld ⊢
    clear hWd k0
    refine wpAnyH_take (i := 0) (oi := { dst := some 10, op := Go.Op.load 23 (Go.Operand.tmp 2), type := 23, pos := "exact.go:660", after := #[], guard := none }) (v := ?v0_1) rfl (by kernel_rfl) (by kernel_rfl) (by kernel_rfl) (fun _ _ _ h => h) (Or.inl ⟨by rfl, ?hy0_1⟩) (by assumption) ?rest0_1
    case hy0_1 => (intro w hSw; (try dsimp only at hSw); obtain ⟨q0, q1, q2, q3, q4, q5⟩ := hSw; go_simp; try with_reducible rfl)
    try simp only [Act.put, List.setIfInBounds_toArray, List.set_cons_zero, List.set_cons_succ]
    refine wpAnyH_take (i := 2) (oi := { dst := some 12, op := Go.Op.load 23 (Go.Operand.tmp 3), type := 23, pos := "exact.go:660", after := #[], guard := none }) (v := ?v2_2) rfl (by kernel_rfl) (by kernel_rfl) (by kernel_rfl) (fun _ _ _ h => h) (Or.inl ⟨by rfl, ?hy2_2⟩) (by assumption) ?rest2_2
    case hy2_2 => (intro w hSw; (try dsimp only at hSw); obtain ⟨q0, q1, q2, q3, q4, q5⟩ := hSw; go_simp; try with_reducible rfl)
    try simp only [Act.put, List.setIfInBounds_toArray, List.set_cons_zero, List.set_cons_succ]
    refine wpAnyH_ready (rs := [1, 8]) (by kernel_rfl) (by simp) ?_
    refine AllReadyH.cons (o := { dst := some 11, op := Go.Op.call { callee := Go.Callee.value (Go.Operand.func 7), args := #[Go.Operand.tmp 10], argTypes := #[23] }, type := 24, pos := "exact.go:660", after := #[{ on := 0, ground := Go.Ground.data }], guard := none }) rfl (fun K hK => ?_) (AllReadyH.cons (o := { dst := some 5, op := Go.Op.alloc 24, type := 0, pos := "exact.go:660", after := #[], guard := none }) rfl (fun K hK => ?_) AllReadyH.nil)
    · go_simp
      go_at_call 7
      refine (HT.out _).mono ?_
      rintro e w3 ⟨rfl, hb⟩
      have k3 := kd.below hb
      refine hK.out _ _ k3.cells (fun hHeld => ?_)
      clear hK K hb kd
      try simp only [Act.put, List.setIfInBounds_toArray, List.set_cons_zero, List.set_cons_succ]
      refine wpAnyH_ready (rs := [3, 8]) (by kernel_rfl) (by simp) ?_
      refine AllReadyH.cons (o := { dst := some 13, op := Go.Op.call { callee := Go.Callee.value (Go.Operand.func 7), args := #[Go.Operand.tmp 12], argTypes := #[23] }, type := 24, pos := "exact.go:660", after := #[{ on := 2, ground := Go.Ground.data }, { on := 1, ground := Go.Ground.chain }], guard := none }) rfl (fun K hK => ?_) (AllReadyH.cons (o := { dst := some 5, op := Go.Op.alloc 24, type := 0, pos := "exact.go:660", after := #[], guard := none }) rfl (fun K hK => ?_) AllReadyH.nil)
      · go_simp
        go_at_call 7
        refine (HT2.out _).mono ?_
        rintro e w4 ⟨rfl, hb⟩
        have k4 := k3.below hb
        refine hK.out _ _ k4.cells (fun hHeld => ?_)
        clear hK K hb k3
        try simp only [Act.put, List.setIfInBounds_toArray, List.set_cons_zero, List.set_cons_succ]
        refine wpAnyH_ready (rs := [4, 8]) (by kernel_rfl) (by simp) ?_
        refine AllReadyH.cons (o := { dst := some 14, op := Go.Op.call { callee := Go.Callee.value (Go.Operand.func 6), args := #[Go.Operand.tmp 11, Go.Operand.tmp 13], argTypes := #[24, 24] }, type := 25, pos := "exact.go:660", after := #[{ on := 1, ground := Go.Ground.data }, { on := 3, ground := Go.Ground.data }, { on := 3, ground := Go.Ground.chain }], guard := none }) rfl (fun K hK => ?_) (AllReadyH.cons (o := { dst := some 5, op := Go.Op.alloc 24, type := 0, pos := "exact.go:660", after := #[], guard := none }) rfl (fun K hK => ?_) AllReadyH.nil)
        · go_simp
          go_at_call 6
          refine (HS.out _).mono ?_
          rintro e w5 ⟨rfl, hb⟩
          have k5 := k4.below hb
          refine hK.out _ _ k5.cells (fun hHeld => ?_)
          clear hK K hb k4
          try simp only [Act.put, List.setIfInBounds_toArray, List.set_cons_zero, List.set_cons_succ]
          refine wpAnyH_take (i := 5) (oi := { dst := some 9, op := Go.Op.move (Go.Operand.tmp 14), type := 25, pos := "exact.go:660", after := #[{ on := 4, ground := Go.Ground.data }], guard := none }) (v := ?v5_6) rfl (by kernel_rfl) (by kernel_rfl) (by kernel_rfl) (fun _ _ _ h => h) (Or.inl ⟨by rfl, ?hy5_6⟩) (by assumption) ?rest5_6
          case hy5_6 => (intro w hSw; (try dsimp only at hSw); obtain ⟨q0, q1, q2, q3, q4, q5⟩ := hSw; go_simp; try with_reducible rfl)
          try simp only [Act.put, List.setIfInBounds_toArray, List.set_cons_zero, List.set_cons_succ]
          refine wpAnyH_take (i := 6) (oi := { dst := some 15, op := Go.Op.extract (Go.Operand.tmp 9) 0, type := 24, pos := "exact.go:660", after := #[{ on := 5, ground := Go.Ground.data }], guard := none }) (v := ?v6_7) rfl (by kernel_rfl) (by kernel_rfl) (by kernel_rfl) (fun _ _ _ h => h) (Or.inl ⟨by rfl, ?hy6_7⟩) (by assumption) ?rest6_7
          case hy6_7 => (intro w hSw; (try dsimp only at hSw); obtain ⟨q0, q1, q2, q3, q4, q5⟩ := hSw; go_simp; try with_reducible rfl)
          try simp only [Act.put, List.setIfInBounds_toArray, List.set_cons_zero, List.set_cons_succ]
          refine wpAnyH_take (i := 7) (oi := { dst := some 16, op := Go.Op.extract (Go.Operand.tmp 9) 1, type := 4, pos := "exact.go:660", after := #[{ on := 5, ground := Go.Ground.data }, { on := 9, ground := Go.Ground.gcOnly Go.Departure.lateStores }], guard := none }) (v := ?v7_8) rfl (by kernel_rfl) (by kernel_rfl) (by kernel_rfl) (fun _ _ _ h => h) (Or.inl ⟨by rfl, ?hy7_8⟩) (by assumption) ?rest7_8
          case hy7_8 => (intro w hSw; (try dsimp only at hSw); obtain ⟨q0, q1, q2, q3, q4, q5⟩ := hSw; go_simp; try with_reducible rfl)
          try simp only [Act.put, List.setIfInBounds_toArray, List.set_cons_zero, List.set_cons_succ]
          refine wpAnyH_ready (rs := [8]) (by kernel_rfl) (by simp) ?_
          refine AllReadyH.cons (o := { dst := some 5, op := Go.Op.alloc 24, type := 0, pos := "exact.go:660", after := #[], guard := none }) rfl (fun K hK => ?_) AllReadyH.nil
          go_simp
          have k9 := k5.alloc (.cells #[.int .i64 0, .int .i64 0, .int .i64 0] 24)
          have x9 := Box3.new k5 24
          refine hK.out _ _ k9.cells (fun hHeld => ?_)
          clear hK K k5
          try simp only [Act.put, List.setIfInBounds_toArray, List.set_cons_zero, List.set_cons_succ]
          obtain ⟨bx, hbx⟩ : ∃ n, w5.heap.size = n := ⟨_, rfl⟩
          rw [hbx] at x9 ⊢
          clear hbx
          obtain ⟨W10, hW10⟩ : ∃ W, (w5.alloc (.cells #[.int .i64 0, .int .i64 0, .int .i64 0] 24)) = W := ⟨_, rfl⟩
          rw [hW10] at k9 x9 hHeld ⊢
          clear hW10
          refine wpAnyH_ready (rs := [9]) (by kernel_rfl) (by simp) ?_
          refine AllReadyH.cons (o := { dst := none, op := Go.Op.store 24 (Go.Operand.tmp 5) (Go.Operand.tmp 15), type := 0, pos := "exact.go:660", after := #[{ on := 8, ground := Go.Ground.data }, { on := 6, ground := Go.Ground.data }, { on := 4, ground := Go.Ground.chain }, { on := 0, ground := Go.Ground.phase }, { on := 1, ground := Go.Ground.phase }, { on := 2, ground := Go.Ground.phase }, { on := 3, ground := Go.Ground.phase }, { on := 4, ground := Go.Ground.phase }, { on := 5, ground := Go.Ground.phase }, { on := 6, ground := Go.Ground.phase }, { on := 7, ground := Go.Ground.textOnly Go.Departure.lateStores }, { on := 8, ground := Go.Ground.phase }], guard := none }) rfl (fun K hK => ?_) AllReadyH.nil
          obtain ⟨⟨c0, c1, c2, cl⟩, g⟩ := x9.box
          have g0 := g 0
          have g1 := g 1
          have g2 := g 2
          clear g
          go_simp
          clear c0 c1 c2 cl g0 g1 g2
          have y11 := x9.reg.set3 A0 A1 A2
          have k11 := x9.keep k9 A0 A1 A2
          refine hK.out _ _ k11.cells (fun hHeld => ?_)
          clear hK K
          try simp only [Act.put, List.setIfInBounds_toArray, List.set_cons_zero, List.set_cons_succ]
          refine wpAnyH_take (i := 10) (oi := { dst := some 6, op := Go.Op.assign (Go.Operand.tmp 16), type := 4, pos := "exact.go:660", after := #[{ on := 7, ground := Go.Ground.data }, { on := 9, ground := Go.Ground.chain }, { on := 0, ground := Go.Ground.phase }, { on := 1, ground := Go.Ground.phase }, { on := 2, ground := Go.Ground.phase }, { on := 3, ground := Go.Ground.phase }, { on := 4, ground := Go.Ground.phase }, { on := 5, ground := Go.Ground.phase }, { on := 6, ground := Go.Ground.phase }, { on := 7, ground := Go.Ground.phase }, { on := 8, ground := Go.Ground.phase }, { on := 9, ground := Go.Ground.phase }], guard := none }) (v := ?v10_12) rfl (by kernel_rfl) (by kernel_rfl) (by kernel_rfl) (fun _ _ _ h => h) (Or.inl ⟨by rfl, ?hy10_12⟩) (by assumption) ?rest10_12
          case hy10_12 => (intro w hSw; (try dsimp only at hSw); obtain ⟨q0, q1, q2, q3, q4, q5⟩ := hSw; go_simp; try with_reducible rfl)
          try simp only [Act.put, List.setIfInBounds_toArray, List.set_cons_zero, List.set_cons_succ]
          refine wpAnyH_done (by kernel_rfl) ?_ _
          go_wp2_with fail
          go_meet
          exact ⟨_, rfl, rfl, k11, y11.1⟩
        · go_simp
          have k13 := k4.alloc (.cells #[.int .i64 0, .int .i64 0, .int .i64 0] 24)
          have x13 := Box3.new k4 24
          refine hK.out _ _ k13.cells (fun hHeld => ?_)
          clear hK K k4
          try simp only [Act.put, List.setIfInBounds_toArray, List.set_cons_zero, List.set_cons_succ]
          obtain ⟨bx, hbx⟩ : ∃ n, w4.heap.size = n := ⟨_, rfl⟩
          rw [hbx] at x13 ⊢
          clear hbx
          obtain ⟨W14, hW14⟩ : ∃ W, (w4.alloc (.cells #[.int .i64 0, .int .i64 0, .int .i64 0] 24)) = W := ⟨_, rfl⟩
          rw [hW14] at k13 x13 hHeld ⊢
          clear hW14
          refine wpAnyH_ready (rs := [4]) (by kernel_rfl) (by simp) ?_
          refine AllReadyH.cons (o := { dst := some 14, op := Go.Op.call { callee := Go.Callee.value (Go.Operand.func 6), args := #[Go.Operand.tmp 11, Go.Operand.tmp 13], argTypes := #[24, 24] }, type := 25, pos := "exact.go:660", after := #[{ on := 1, ground := Go.Ground.data }, { on := 3, ground := Go.Ground.data }, { on := 3, ground := Go.Ground.chain }], guard := none }) rfl (fun K hK => ?_) AllReadyH.nil
          go_simp
          go_at_call 6
          refine (HS.out _).mono ?_
          rintro e w15 ⟨rfl, hb⟩
          have k15 := k13.below hb
          have x15 := x13.below hb
          refine hK.out _ _ k15.cells (fun hHeld => ?_)
          clear hK K hb k13 x13
          try simp only [Act.put, List.setIfInBounds_toArray, List.set_cons_zero, List.set_cons_succ]
          refine wpAnyH_take (i := 5) (oi := { dst := some 9, op := Go.Op.move (Go.Operand.tmp 14), type := 25, pos := "exact.go:660", after := #[{ on := 4, ground := Go.Ground.data }], guard := none }) (v := ?v5_16) rfl (by kernel_rfl) (by kernel_rfl) (by kernel_rfl) (fun _ _ _ h => h) (Or.inl ⟨by rfl, ?hy5_16⟩) (by assumption) ?rest5_16
          case hy5_16 => (intro w hSw; (try dsimp only at hSw); obtain ⟨q0, q1, q2, q3, q4, q5⟩ := hSw; go_simp; try with_reducible rfl)
          try simp only [Act.put, List.setIfInBounds_toArray, List.set_cons_zero, List.set_cons_succ]
          refine wpAnyH_take (i := 6) (oi := { dst := some 15, op := Go.Op.extract (Go.Operand.tmp 9) 0, type := 24, pos := "exact.go:660", after := #[{ on := 5, ground := Go.Ground.data }], guard := none }) (v := ?v6_17) rfl (by kernel_rfl) (by kernel_rfl) (by kernel_rfl) (fun _ _ _ h => h) (Or.inl ⟨by rfl, ?hy6_17⟩) (by assumption) ?rest6_17
          case hy6_17 => (intro w hSw; (try dsimp only at hSw); obtain ⟨q0, q1, q2, q3, q4, q5⟩ := hSw; go_simp; try with_reducible rfl)
          try simp only [Act.put, List.setIfInBounds_toArray, List.set_cons_zero, List.set_cons_succ]
          refine wpAnyH_take (i := 7) (oi := { dst := some 16, op := Go.Op.extract (Go.Operand.tmp 9) 1, type := 4, pos := "exact.go:660", after := #[{ on := 5, ground := Go.Ground.data }, { on := 9, ground := Go.Ground.gcOnly Go.Departure.lateStores }], guard := none }) (v := ?v7_18) rfl (by kernel_rfl) (by kernel_rfl) (by kernel_rfl) (fun _ _ _ h => h) (Or.inl ⟨by rfl, ?hy7_18⟩) (by assumption) ?rest7_18
          case hy7_18 => (intro w hSw; (try dsimp only at hSw); obtain ⟨q0, q1, q2, q3, q4, q5⟩ := hSw; go_simp; try with_reducible rfl)
          try simp only [Act.put, List.setIfInBounds_toArray, List.set_cons_zero, List.set_cons_succ]
          refine wpAnyH_ready (rs := [9]) (by kernel_rfl) (by simp) ?_
          refine AllReadyH.cons (o := { dst := none, op := Go.Op.store 24 (Go.Operand.tmp 5) (Go.Operand.tmp 15), type := 0, pos := "exact.go:660", after := #[{ on := 8, ground := Go.Ground.data }, { on := 6, ground := Go.Ground.data }, { on := 4, ground := Go.Ground.chain }, { on := 0, ground := Go.Ground.phase }, { on := 1, ground := Go.Ground.phase }, { on := 2, ground := Go.Ground.phase }, { on := 3, ground := Go.Ground.phase }, { on := 4, ground := Go.Ground.phase }, { on := 5, ground := Go.Ground.phase }, { on := 6, ground := Go.Ground.phase }, { on := 7, ground := Go.Ground.textOnly Go.Departure.lateStores }, { on := 8, ground := Go.Ground.phase }], guard := none }) rfl (fun K hK => ?_) AllReadyH.nil
          obtain ⟨⟨c0, c1, c2, cl⟩, g⟩ := x15.box
          have g0 := g 0
          have g1 := g 1
          have g2 := g 2
          clear g
          go_simp
          clear c0 c1 c2 cl g0 g1 g2
          have y19 := x15.reg.set3 A0 A1 A2
          have k19 := x15.keep k15 A0 A1 A2
          refine hK.out _ _ k19.cells (fun hHeld => ?_)
          clear hK K
          try simp only [Act.put, List.setIfInBounds_toArray, List.set_cons_zero, List.set_cons_succ]
          refine wpAnyH_take (i := 10) (oi := { dst := some 6, op := Go.Op.assign (Go.Operand.tmp 16), type := 4, pos := "exact.go:660", after := #[{ on := 7, ground := Go.Ground.data }, { on := 9, ground := Go.Ground.chain }, { on := 0, ground := Go.Ground.phase }, { on := 1, ground := Go.Ground.phase }, { on := 2, ground := Go.Ground.phase }, { on := 3, ground := Go.Ground.phase }, { on := 4, ground := Go.Ground.phase }, { on := 5, ground := Go.Ground.phase }, { on := 6, ground := Go.Ground.phase }, { on := 7, ground := Go.Ground.phase }, { on := 8, ground := Go.Ground.phase }, { on := 9, ground := Go.Ground.phase }], guard := none }) (v := ?v10_20) rfl (by kernel_rfl) (by kernel_rfl) (by kernel_rfl) (fun _ _ _ h => h) (Or.inl ⟨by rfl, ?hy10_20⟩) (by assumption) ?rest10_20
          case hy10_20 => (intro w hSw; (try dsimp only at hSw); obtain ⟨q0, q1, q2, q3, q4, q5⟩ := hSw; go_simp; try with_reducible rfl)
          try simp only [Act.put, List.setIfInBounds_toArray, List.set_cons_zero, List.set_cons_succ]
          refine wpAnyH_done (by kernel_rfl) ?_ _
          go_wp2_with fail
          go_meet
          exact ⟨_, rfl, rfl, k19, y19.1⟩
      · go_simp
        have k21 := k3.alloc (.cells #[.int .i64 0, .int .i64 0, .int .i64 0] 24)
        have x21 := Box3.new k3 24
        refine hK.out _ _ k21.cells (fun hHeld => ?_)
        clear hK K k3
        try simp only [Act.put, List.setIfInBounds_toArray, List.set_cons_zero, List.set_cons_succ]
        obtain ⟨bx, hbx⟩ : ∃ n, w3.heap.size = n := ⟨_, rfl⟩
        rw [hbx] at x21 ⊢
        clear hbx
        obtain ⟨W22, hW22⟩ : ∃ W, (w3.alloc (.cells #[.int .i64 0, .int .i64 0, .int .i64 0] 24)) = W := ⟨_, rfl⟩
        rw [hW22] at k21 x21 hHeld ⊢
        clear hW22
        refine wpAnyH_ready (rs := [3]) (by kernel_rfl) (by simp) ?_
        refine AllReadyH.cons (o := { dst := some 13, op := Go.Op.call { callee := Go.Callee.value (Go.Operand.func 7), args := #[Go.Operand.tmp 12], argTypes := #[23] }, type := 24, pos := "exact.go:660", after := #[{ on := 2, ground := Go.Ground.data }, { on := 1, ground := Go.Ground.chain }], guard := none }) rfl (fun K hK => ?_) AllReadyH.nil
        go_simp
        go_at_call 7
        refine (HT2.out _).mono ?_
        rintro e w23 ⟨rfl, hb⟩
        have k23 := k21.below hb
        have x23 := x21.below hb
        refine hK.out _ _ k23.cells (fun hHeld => ?_)
        clear hK K hb k21 x21
        try simp only [Act.put, List.setIfInBounds_toArray, List.set_cons_zero, List.set_cons_succ]
        refine wpAnyH_ready (rs := [4]) (by kernel_rfl) (by simp) ?_
        refine AllReadyH.cons (o := { dst := some 14, op := Go.Op.call { callee := Go.Callee.value (Go.Operand.func 6), args := #[Go.Operand.tmp 11, Go.Operand.tmp 13], argTypes := #[24, 24] }, type := 25, pos := "exact.go:660", after := #[{ on := 1, ground := Go.Ground.data }, { on := 3, ground := Go.Ground.data }, { on := 3, ground := Go.Ground.chain }], guard := none }) rfl (fun K hK => ?_) AllReadyH.nil
        go_simp
        go_at_call 6
        refine (HS.out _).mono ?_
        rintro e w24 ⟨rfl, hb⟩
        have k24 := k23.below hb
        have x24 := x23.below hb
        refine hK.out _ _ k24.cells (fun hHeld => ?_)
        clear hK K hb k23 x23
        try simp only [Act.put, List.setIfInBounds_toArray, List.set_cons_zero, List.set_cons_succ]
        refine wpAnyH_take (i := 5) (oi := { dst := some 9, op := Go.Op.move (Go.Operand.tmp 14), type := 25, pos := "exact.go:660", after := #[{ on := 4, ground := Go.Ground.data }], guard := none }) (v := ?v5_25) rfl (by kernel_rfl) (by kernel_rfl) (by kernel_rfl) (fun _ _ _ h => h) (Or.inl ⟨by rfl, ?hy5_25⟩) (by assumption) ?rest5_25
        case hy5_25 => (intro w hSw; (try dsimp only at hSw); obtain ⟨q0, q1, q2, q3, q4, q5⟩ := hSw; go_simp; try with_reducible rfl)
        try simp only [Act.put, List.setIfInBounds_toArray, List.set_cons_zero, List.set_cons_succ]
        refine wpAnyH_take (i := 6) (oi := { dst := some 15, op := Go.Op.extract (Go.Operand.tmp 9) 0, type := 24, pos := "exact.go:660", after := #[{ on := 5, ground := Go.Ground.data }], guard := none }) (v := ?v6_26) rfl (by kernel_rfl) (by kernel_rfl) (by kernel_rfl) (fun _ _ _ h => h) (Or.inl ⟨by rfl, ?hy6_26⟩) (by assumption) ?rest6_26
        case hy6_26 => (intro w hSw; (try dsimp only at hSw); obtain ⟨q0, q1, q2, q3, q4, q5⟩ := hSw; go_simp; try with_reducible rfl)
        try simp only [Act.put, List.setIfInBounds_toArray, List.set_cons_zero, List.set_cons_succ]
        refine wpAnyH_take (i := 7) (oi := { dst := some 16, op := Go.Op.extract (Go.Operand.tmp 9) 1, type := 4, pos := "exact.go:660", after := #[{ on := 5, ground := Go.Ground.data }, { on := 9, ground := Go.Ground.gcOnly Go.Departure.lateStores }], guard := none }) (v := ?v7_27) rfl (by kernel_rfl) (by kernel_rfl) (by kernel_rfl) (fun _ _ _ h => h) (Or.inl ⟨by rfl, ?hy7_27⟩) (by assumption) ?rest7_27
        case hy7_27 => (intro w hSw; (try dsimp only at hSw); obtain ⟨q0, q1, q2, q3, q4, q5⟩ := hSw; go_simp; try with_reducible rfl)
        try simp only [Act.put, List.setIfInBounds_toArray, List.set_cons_zero, List.set_cons_succ]
        refine wpAnyH_ready (rs := [9]) (by kernel_rfl) (by simp) ?_
        refine AllReadyH.cons (o := { dst := none, op := Go.Op.store 24 (Go.Operand.tmp 5) (Go.Operand.tmp 15), type := 0, pos := "exact.go:660", after := #[{ on := 8, ground := Go.Ground.data }, { on := 6, ground := Go.Ground.data }, { on := 4, ground := Go.Ground.chain }, { on := 0, ground := Go.Ground.phase }, { on := 1, ground := Go.Ground.phase }, { on := 2, ground := Go.Ground.phase }, { on := 3, ground := Go.Ground.phase }, { on := 4, ground := Go.Ground.phase }, { on := 5, ground := Go.Ground.phase }, { on := 6, ground := Go.Ground.phase }, { on := 7, ground := Go.Ground.textOnly Go.Departure.lateStores }, { on := 8, ground := Go.Ground.phase }], guard := none }) rfl (fun K hK => ?_) AllReadyH.nil
        obtain ⟨⟨c0, c1, c2, cl⟩, g⟩ := x24.box
        have g0 := g 0
        have g1 := g 1
        have g2 := g 2
        clear g
        go_simp
        clear c0 c1 c2 cl g0 g1 g2
        have y28 := x24.reg.set3 A0 A1 A2
        have k28 := x24.keep k24 A0 A1 A2
        refine hK.out _ _ k28.cells (fun hHeld => ?_)
        clear hK K
        try simp only [Act.put, List.setIfInBounds_toArray, List.set_cons_zero, List.set_cons_succ]
        refine wpAnyH_take (i := 10) (oi := { dst := some 6, op := Go.Op.assign (Go.Operand.tmp 16), type := 4, pos := "exact.go:660", after := #[{ on := 7, ground := Go.Ground.data }, { on := 9, ground := Go.Ground.chain }, { on := 0, ground := Go.Ground.phase }, { on := 1, ground := Go.Ground.phase }, { on := 2, ground := Go.Ground.phase }, { on := 3, ground := Go.Ground.phase }, { on := 4, ground := Go.Ground.phase }, { on := 5, ground := Go.Ground.phase }, { on := 6, ground := Go.Ground.phase }, { on := 7, ground := Go.Ground.phase }, { on := 8, ground := Go.Ground.phase }, { on := 9, ground := Go.Ground.phase }], guard := none }) (v := ?v10_29) rfl (by kernel_rfl) (by kernel_rfl) (by kernel_rfl) (fun _ _ _ h => h) (Or.inl ⟨by rfl, ?hy10_29⟩) (by assumption) ?rest10_29
        case hy10_29 => (intro w hSw; (try dsimp only at hSw); obtain ⟨q0, q1, q2, q3, q4, q5⟩ := hSw; go_simp; try with_reducible rfl)
        try simp only [Act.put, List.setIfInBounds_toArray, List.set_cons_zero, List.set_cons_succ]
        refine wpAnyH_done (by kernel_rfl) ?_ _
        go_wp2_with fail
        go_meet
        exact ⟨_, rfl, rfl, k28, y28.1⟩
    · go_simp
      have k30 := kd.alloc (.cells #[.int .i64 0, .int .i64 0, .int .i64 0] 24)
      have x30 := Box3.new kd 24
      refine hK.out _ _ k30.cells (fun hHeld => ?_)
      clear hK K kd
      try simp only [Act.put, List.setIfInBounds_toArray, List.set_cons_zero, List.set_cons_succ]
      obtain ⟨bx, hbx⟩ : ∃ n, Wd.heap.size = n := ⟨_, rfl⟩
      rw [hbx] at x30 ⊢
      clear hbx
      obtain ⟨W31, hW31⟩ : ∃ W, (Wd.alloc (.cells #[.int .i64 0, .int .i64 0, .int .i64 0] 24)) = W := ⟨_, rfl⟩
      rw [hW31] at k30 x30 hHeld ⊢
      clear hW31
      refine wpAnyH_ready (rs := [1]) (by kernel_rfl) (by simp) ?_
      refine AllReadyH.cons (o := { dst := some 11, op := Go.Op.call { callee := Go.Callee.value (Go.Operand.func 7), args := #[Go.Operand.tmp 10], argTypes := #[23] }, type := 24, pos := "exact.go:660", after := #[{ on := 0, ground := Go.Ground.data }], guard := none }) rfl (fun K hK => ?_) AllReadyH.nil
      go_simp
      go_at_call 7
      refine (HT.out _).mono ?_
      rintro e w32 ⟨rfl, hb⟩
      have k32 := k30.below hb
      have x32 := x30.below hb
      refine hK.out _ _ k32.cells (fun hHeld => ?_)
      clear hK K hb k30 x30
      try simp only [Act.put, List.setIfInBounds_toArray, List.set_cons_zero, List.set_cons_succ]
      refine wpAnyH_ready (rs := [3]) (by kernel_rfl) (by simp) ?_
      refine AllReadyH.cons (o := { dst := some 13, op := Go.Op.call { callee := Go.Callee.value (Go.Operand.func 7), args := #[Go.Operand.tmp 12], argTypes := #[23] }, type := 24, pos := "exact.go:660", after := #[{ on := 2, ground := Go.Ground.data }, { on := 1, ground := Go.Ground.chain }], guard := none }) rfl (fun K hK => ?_) AllReadyH.nil
      go_simp
      go_at_call 7
      refine (HT2.out _).mono ?_
      rintro e w33 ⟨rfl, hb⟩
      have k33 := k32.below hb
      have x33 := x32.below hb
      refine hK.out _ _ k33.cells (fun hHeld => ?_)
      clear hK K hb k32 x32
      try simp only [Act.put, List.setIfInBounds_toArray, List.set_cons_zero, List.set_cons_succ]
      refine wpAnyH_ready (rs := [4]) (by kernel_rfl) (by simp) ?_
      refine AllReadyH.cons (o := { dst := some 14, op := Go.Op.call { callee := Go.Callee.value (Go.Operand.func 6), args := #[Go.Operand.tmp 11, Go.Operand.tmp 13], argTypes := #[24, 24] }, type := 25, pos := "exact.go:660", after := #[{ on := 1, ground := Go.Ground.data }, { on := 3, ground := Go.Ground.data }, { on := 3, ground := Go.Ground.chain }], guard := none }) rfl (fun K hK => ?_) AllReadyH.nil
      go_simp
      go_at_call 6
      refine (HS.out _).mono ?_
      rintro e w34 ⟨rfl, hb⟩
      have k34 := k33.below hb
      have x34 := x33.below hb
      refine hK.out _ _ k34.cells (fun hHeld => ?_)
      clear hK K hb k33 x33
      try simp only [Act.put, List.setIfInBounds_toArray, List.set_cons_zero, List.set_cons_succ]
      refine wpAnyH_take (i := 5) (oi := { dst := some 9, op := Go.Op.move (Go.Operand.tmp 14), type := 25, pos := "exact.go:660", after := #[{ on := 4, ground := Go.Ground.data }], guard := none }) (v := ?v5_35) rfl (by kernel_rfl) (by kernel_rfl) (by kernel_rfl) (fun _ _ _ h => h) (Or.inl ⟨by rfl, ?hy5_35⟩) (by assumption) ?rest5_35
      case hy5_35 => (intro w hSw; (try dsimp only at hSw); obtain ⟨q0, q1, q2, q3, q4, q5⟩ := hSw; go_simp; try with_reducible rfl)
      try simp only [Act.put, List.setIfInBounds_toArray, List.set_cons_zero, List.set_cons_succ]
      refine wpAnyH_take (i := 6) (oi := { dst := some 15, op := Go.Op.extract (Go.Operand.tmp 9) 0, type := 24, pos := "exact.go:660", after := #[{ on := 5, ground := Go.Ground.data }], guard := none }) (v := ?v6_36) rfl (by kernel_rfl) (by kernel_rfl) (by kernel_rfl) (fun _ _ _ h => h) (Or.inl ⟨by rfl, ?hy6_36⟩) (by assumption) ?rest6_36
      case hy6_36 => (intro w hSw; (try dsimp only at hSw); obtain ⟨q0, q1, q2, q3, q4, q5⟩ := hSw; go_simp; try with_reducible rfl)
      try simp only [Act.put, List.setIfInBounds_toArray, List.set_cons_zero, List.set_cons_succ]
      refine wpAnyH_take (i := 7) (oi := { dst := some 16, op := Go.Op.extract (Go.Operand.tmp 9) 1, type := 4, pos := "exact.go:660", after := #[{ on := 5, ground := Go.Ground.data }, { on := 9, ground := Go.Ground.gcOnly Go.Departure.lateStores }], guard := none }) (v := ?v7_37) rfl (by kernel_rfl) (by kernel_rfl) (by kernel_rfl) (fun _ _ _ h => h) (Or.inl ⟨by rfl, ?hy7_37⟩) (by assumption) ?rest7_37
      case hy7_37 => (intro w hSw; (try dsimp only at hSw); obtain ⟨q0, q1, q2, q3, q4, q5⟩ := hSw; go_simp; try with_reducible rfl)
      try simp only [Act.put, List.setIfInBounds_toArray, List.set_cons_zero, List.set_cons_succ]
      refine wpAnyH_ready (rs := [9]) (by kernel_rfl) (by simp) ?_
      refine AllReadyH.cons (o := { dst := none, op := Go.Op.store 24 (Go.Operand.tmp 5) (Go.Operand.tmp 15), type := 0, pos := "exact.go:660", after := #[{ on := 8, ground := Go.Ground.data }, { on := 6, ground := Go.Ground.data }, { on := 4, ground := Go.Ground.chain }, { on := 0, ground := Go.Ground.phase }, { on := 1, ground := Go.Ground.phase }, { on := 2, ground := Go.Ground.phase }, { on := 3, ground := Go.Ground.phase }, { on := 4, ground := Go.Ground.phase }, { on := 5, ground := Go.Ground.phase }, { on := 6, ground := Go.Ground.phase }, { on := 7, ground := Go.Ground.textOnly Go.Departure.lateStores }, { on := 8, ground := Go.Ground.phase }], guard := none }) rfl (fun K hK => ?_) AllReadyH.nil
      obtain ⟨⟨c0, c1, c2, cl⟩, g⟩ := x34.box
      have g0 := g 0
      have g1 := g 1
      have g2 := g 2
      clear g
      go_simp
      clear c0 c1 c2 cl g0 g1 g2
      have y38 := x34.reg.set3 A0 A1 A2
      have k38 := x34.keep k34 A0 A1 A2
      refine hK.out _ _ k38.cells (fun hHeld => ?_)
      clear hK K
      try simp only [Act.put, List.setIfInBounds_toArray, List.set_cons_zero, List.set_cons_succ]
      refine wpAnyH_take (i := 10) (oi := { dst := some 6, op := Go.Op.assign (Go.Operand.tmp 16), type := 4, pos := "exact.go:660", after := #[{ on := 7, ground := Go.Ground.data }, { on := 9, ground := Go.Ground.chain }, { on := 0, ground := Go.Ground.phase }, { on := 1, ground := Go.Ground.phase }, { on := 2, ground := Go.Ground.phase }, { on := 3, ground := Go.Ground.phase }, { on := 4, ground := Go.Ground.phase }, { on := 5, ground := Go.Ground.phase }, { on := 6, ground := Go.Ground.phase }, { on := 7, ground := Go.Ground.phase }, { on := 8, ground := Go.Ground.phase }, { on := 9, ground := Go.Ground.phase }], guard := none }) (v := ?v10_39) rfl (by kernel_rfl) (by kernel_rfl) (by kernel_rfl) (fun _ _ _ h => h) (Or.inl ⟨by rfl, ?hy10_39⟩) (by assumption) ?rest10_39
      case hy10_39 => (intro w hSw; (try dsimp only at hSw); obtain ⟨q0, q1, q2, q3, q4, q5⟩ := hSw; go_simp; try with_reducible rfl)
      try simp only [Act.put, List.setIfInBounds_toArray, List.set_cons_zero, List.set_cons_succ]
      refine wpAnyH_done (by kernel_rfl) ?_ _
      go_wp2_with fail
      go_meet
      exact ⟨_, rfl, rfl, k38, y38.1⟩
  case rest =>
    obtain ⟨b, rfl, rfl, k1, rb⟩ := hcut
    go_upto_region 2 with fail
    go_cut [7, 8] from 17 to 24 (fun x7 x8 wx => ∃ c, x7 = .pointer (some ⟨c, 0, none⟩) ∧ x8 = .bool ok ∧ Below w.heap.size w wx ∧ RegAt wx b A0 A1 A2 ∧ RegAt wx c A0 A1 A2)
    case first =>
      refine wp_region_held_drew (S := (fun wx => Cells2 w S T X S' T' X' wx)) (by kernel_rfl) k1.drew.cells (fun hHeld => ?_)
      have kd := k1.drew
      have rd := rb.below ((Below.refl wc.heap.size wc).drew) rb.2.2.2
      obtain ⟨Wd, hWd⟩ : ∃ W, wc.drew = W := ⟨_, rfl⟩
      rw [hWd] at kd hHeld rd ⊢
      clear hWd k1 rb
      refine wpAnyH_take (i := 0) (oi := { dst := some 18, op := Go.Op.load 23 (Go.Operand.tmp 2), type := 23, pos := "exact.go:661", after := #[], guard := none }) (v := ?v0_40) rfl (by kernel_rfl) (by kernel_rfl) (by kernel_rfl) (fun _ _ _ h => h) (Or.inl ⟨by rfl, ?hy0_40⟩) (by assumption) ?rest0_40
      case hy0_40 => (intro w hSw; (try dsimp only at hSw); obtain ⟨q0, q1, q2, q3, q4, q5⟩ := hSw; go_simp; try with_reducible rfl)
      try simp only [Act.put, List.setIfInBounds_toArray, List.set_cons_zero, List.set_cons_succ]
      refine wpAnyH_take (i := 2) (oi := { dst := some 20, op := Go.Op.load 23 (Go.Operand.tmp 3), type := 23, pos := "exact.go:661", after := #[], guard := none }) (v := ?v2_41) rfl (by kernel_rfl) (by kernel_rfl) (by kernel_rfl) (fun _ _ _ h => h) (Or.inl ⟨by rfl, ?hy2_41⟩) (by assumption) ?rest2_41
      case hy2_41 => (intro w hSw; (try dsimp only at hSw); obtain ⟨q0, q1, q2, q3, q4, q5⟩ := hSw; go_simp; try with_reducible rfl)
      try simp only [Act.put, List.setIfInBounds_toArray, List.set_cons_zero, List.set_cons_succ]
      refine wpAnyH_ready (rs := [1, 8]) (by kernel_rfl) (by simp) ?_
      refine AllReadyH.cons (o := { dst := some 19, op := Go.Op.call { callee := Go.Callee.value (Go.Operand.func 7), args := #[Go.Operand.tmp 18], argTypes := #[23] }, type := 24, pos := "exact.go:661", after := #[{ on := 0, ground := Go.Ground.data }], guard := none }) rfl (fun K hK => ?_) (AllReadyH.cons (o := { dst := some 7, op := Go.Op.alloc 24, type := 0, pos := "exact.go:661", after := #[], guard := none }) rfl (fun K hK => ?_) AllReadyH.nil)
      · go_simp
        go_at_call 7
        refine (HT.out _).mono ?_
        rintro e w42 ⟨rfl, hb⟩
        have k42 := kd.below hb
        have r42 := rd.below hb rd.2.2.2
        refine hK.out _ _ k42.cells (fun hHeld => ?_)
        clear hK K hb kd rd
        try simp only [Act.put, List.setIfInBounds_toArray, List.set_cons_zero, List.set_cons_succ]
        refine wpAnyH_ready (rs := [3, 8]) (by kernel_rfl) (by simp) ?_
        refine AllReadyH.cons (o := { dst := some 21, op := Go.Op.call { callee := Go.Callee.value (Go.Operand.func 7), args := #[Go.Operand.tmp 20], argTypes := #[23] }, type := 24, pos := "exact.go:661", after := #[{ on := 2, ground := Go.Ground.data }, { on := 1, ground := Go.Ground.chain }], guard := none }) rfl (fun K hK => ?_) (AllReadyH.cons (o := { dst := some 7, op := Go.Op.alloc 24, type := 0, pos := "exact.go:661", after := #[], guard := none }) rfl (fun K hK => ?_) AllReadyH.nil)
        · go_simp
          go_at_call 7
          refine (HT2.out _).mono ?_
          rintro e w43 ⟨rfl, hb⟩
          have k43 := k42.below hb
          have r43 := r42.below hb r42.2.2.2
          refine hK.out _ _ k43.cells (fun hHeld => ?_)
          clear hK K hb k42 r42
          try simp only [Act.put, List.setIfInBounds_toArray, List.set_cons_zero, List.set_cons_succ]
          refine wpAnyH_ready (rs := [4, 8]) (by kernel_rfl) (by simp) ?_
          refine AllReadyH.cons (o := { dst := some 22, op := Go.Op.call { callee := Go.Callee.value (Go.Operand.func 8), args := #[Go.Operand.tmp 19, Go.Operand.tmp 21], argTypes := #[24, 24] }, type := 25, pos := "exact.go:661", after := #[{ on := 1, ground := Go.Ground.data }, { on := 3, ground := Go.Ground.data }, { on := 3, ground := Go.Ground.chain }], guard := none }) rfl (fun K hK => ?_) (AllReadyH.cons (o := { dst := some 7, op := Go.Op.alloc 24, type := 0, pos := "exact.go:661", after := #[], guard := none }) rfl (fun K hK => ?_) AllReadyH.nil)
          · go_simp
            go_at_call 8
            refine (HI.out _).mono ?_
            rintro e w44 ⟨rfl, hb⟩
            have k44 := k43.below hb
            have r44 := r43.below hb r43.2.2.2
            refine hK.out _ _ k44.cells (fun hHeld => ?_)
            clear hK K hb k43 r43
            try simp only [Act.put, List.setIfInBounds_toArray, List.set_cons_zero, List.set_cons_succ]
            refine wpAnyH_take (i := 5) (oi := { dst := some 17, op := Go.Op.move (Go.Operand.tmp 22), type := 25, pos := "exact.go:661", after := #[{ on := 4, ground := Go.Ground.data }], guard := none }) (v := ?v5_45) rfl (by kernel_rfl) (by kernel_rfl) (by kernel_rfl) (fun _ _ _ h => h) (Or.inl ⟨by rfl, ?hy5_45⟩) (by assumption) ?rest5_45
            case hy5_45 => (intro w hSw; (try dsimp only at hSw); obtain ⟨q0, q1, q2, q3, q4, q5⟩ := hSw; go_simp; try with_reducible rfl)
            try simp only [Act.put, List.setIfInBounds_toArray, List.set_cons_zero, List.set_cons_succ]
            refine wpAnyH_take (i := 6) (oi := { dst := some 23, op := Go.Op.extract (Go.Operand.tmp 17) 0, type := 24, pos := "exact.go:661", after := #[{ on := 5, ground := Go.Ground.data }], guard := none }) (v := ?v6_46) rfl (by kernel_rfl) (by kernel_rfl) (by kernel_rfl) (fun _ _ _ h => h) (Or.inl ⟨by rfl, ?hy6_46⟩) (by assumption) ?rest6_46
            case hy6_46 => (intro w hSw; (try dsimp only at hSw); obtain ⟨q0, q1, q2, q3, q4, q5⟩ := hSw; go_simp; try with_reducible rfl)
            try simp only [Act.put, List.setIfInBounds_toArray, List.set_cons_zero, List.set_cons_succ]
            refine wpAnyH_take (i := 7) (oi := { dst := some 24, op := Go.Op.extract (Go.Operand.tmp 17) 1, type := 4, pos := "exact.go:661", after := #[{ on := 5, ground := Go.Ground.data }, { on := 9, ground := Go.Ground.gcOnly Go.Departure.lateStores }], guard := none }) (v := ?v7_47) rfl (by kernel_rfl) (by kernel_rfl) (by kernel_rfl) (fun _ _ _ h => h) (Or.inl ⟨by rfl, ?hy7_47⟩) (by assumption) ?rest7_47
            case hy7_47 => (intro w hSw; (try dsimp only at hSw); obtain ⟨q0, q1, q2, q3, q4, q5⟩ := hSw; go_simp; try with_reducible rfl)
            try simp only [Act.put, List.setIfInBounds_toArray, List.set_cons_zero, List.set_cons_succ]
            refine wpAnyH_ready (rs := [8]) (by kernel_rfl) (by simp) ?_
            refine AllReadyH.cons (o := { dst := some 7, op := Go.Op.alloc 24, type := 0, pos := "exact.go:661", after := #[], guard := none }) rfl (fun K hK => ?_) AllReadyH.nil
            go_simp
            have k48 := k44.alloc (.cells #[.int .i64 0, .int .i64 0, .int .i64 0] 24)
            have x48 := Box3.new k44 24
            have r48 := r44.below ((Below.refl w44.heap.size w44).alloc (Nat.le_refl _) (.cells #[.int .i64 0, .int .i64 0, .int .i64 0] 24)) r44.2.2.2
            have n48 := Nat.ne_of_lt r44.2.2.2
            refine hK.out _ _ k48.cells (fun hHeld => ?_)
            clear hK K k44 r44
            try simp only [Act.put, List.setIfInBounds_toArray, List.set_cons_zero, List.set_cons_succ]
            obtain ⟨bx, hbx⟩ : ∃ n, w44.heap.size = n := ⟨_, rfl⟩
            rw [hbx] at x48 n48 ⊢
            clear hbx
            obtain ⟨W49, hW49⟩ : ∃ W, (w44.alloc (.cells #[.int .i64 0, .int .i64 0, .int .i64 0] 24)) = W := ⟨_, rfl⟩
            rw [hW49] at k48 x48 r48 hHeld ⊢
            clear hW49
            refine wpAnyH_ready (rs := [9]) (by kernel_rfl) (by simp) ?_
            refine AllReadyH.cons (o := { dst := none, op := Go.Op.store 24 (Go.Operand.tmp 7) (Go.Operand.tmp 23), type := 0, pos := "exact.go:661", after := #[{ on := 8, ground := Go.Ground.data }, { on := 6, ground := Go.Ground.data }, { on := 4, ground := Go.Ground.chain }, { on := 0, ground := Go.Ground.phase }, { on := 1, ground := Go.Ground.phase }, { on := 2, ground := Go.Ground.phase }, { on := 3, ground := Go.Ground.phase }, { on := 4, ground := Go.Ground.phase }, { on := 5, ground := Go.Ground.phase }, { on := 6, ground := Go.Ground.phase }, { on := 7, ground := Go.Ground.textOnly Go.Departure.lateStores }, { on := 8, ground := Go.Ground.phase }], guard := none }) rfl (fun K hK => ?_) AllReadyH.nil
            obtain ⟨⟨c0, c1, c2, cl⟩, g⟩ := x48.box
            have g0 := g 0
            have g1 := g 1
            have g2 := g 2
            clear g
            go_simp
            clear c0 c1 c2 cl g0 g1 g2
            have y50 := x48.reg.set3 A0 A1 A2
            have k50 := x48.keep k48 A0 A1 A2
            have r50 := r48.kept y50.2.2 (by intro h; injection h with h; omega)
            refine hK.out _ _ k50.cells (fun hHeld => ?_)
            clear hK K
            try simp only [Act.put, List.setIfInBounds_toArray, List.set_cons_zero, List.set_cons_succ]
            refine wpAnyH_take (i := 10) (oi := { dst := some 8, op := Go.Op.assign (Go.Operand.tmp 24), type := 4, pos := "exact.go:661", after := #[{ on := 7, ground := Go.Ground.data }, { on := 9, ground := Go.Ground.chain }, { on := 0, ground := Go.Ground.phase }, { on := 1, ground := Go.Ground.phase }, { on := 2, ground := Go.Ground.phase }, { on := 3, ground := Go.Ground.phase }, { on := 4, ground := Go.Ground.phase }, { on := 5, ground := Go.Ground.phase }, { on := 6, ground := Go.Ground.phase }, { on := 7, ground := Go.Ground.phase }, { on := 8, ground := Go.Ground.phase }, { on := 9, ground := Go.Ground.phase }], guard := none }) (v := ?v10_51) rfl (by kernel_rfl) (by kernel_rfl) (by kernel_rfl) (fun _ _ _ h => h) (Or.inl ⟨by rfl, ?hy10_51⟩) (by assumption) ?rest10_51
            case hy10_51 => (intro w hSw; (try dsimp only at hSw); obtain ⟨q0, q1, q2, q3, q4, q5⟩ := hSw; go_simp; try with_reducible rfl)
            try simp only [Act.put, List.setIfInBounds_toArray, List.set_cons_zero, List.set_cons_succ]
            refine wpAnyH_done (by kernel_rfl) ?_ _
            go_wp2_with fail
            go_meet
            exact ⟨_, rfl, rfl, k50.1, r50, y50.1⟩
          · go_simp
            have k52 := k43.alloc (.cells #[.int .i64 0, .int .i64 0, .int .i64 0] 24)
            have x52 := Box3.new k43 24
            have r52 := r43.below ((Below.refl w43.heap.size w43).alloc (Nat.le_refl _) (.cells #[.int .i64 0, .int .i64 0, .int .i64 0] 24)) r43.2.2.2
            have n52 := Nat.ne_of_lt r43.2.2.2
            refine hK.out _ _ k52.cells (fun hHeld => ?_)
            clear hK K k43 r43
            try simp only [Act.put, List.setIfInBounds_toArray, List.set_cons_zero, List.set_cons_succ]
            obtain ⟨bx, hbx⟩ : ∃ n, w43.heap.size = n := ⟨_, rfl⟩
            rw [hbx] at x52 n52 ⊢
            clear hbx
            obtain ⟨W53, hW53⟩ : ∃ W, (w43.alloc (.cells #[.int .i64 0, .int .i64 0, .int .i64 0] 24)) = W := ⟨_, rfl⟩
            rw [hW53] at k52 x52 r52 hHeld ⊢
            clear hW53
            refine wpAnyH_ready (rs := [4]) (by kernel_rfl) (by simp) ?_
            refine AllReadyH.cons (o := { dst := some 22, op := Go.Op.call { callee := Go.Callee.value (Go.Operand.func 8), args := #[Go.Operand.tmp 19, Go.Operand.tmp 21], argTypes := #[24, 24] }, type := 25, pos := "exact.go:661", after := #[{ on := 1, ground := Go.Ground.data }, { on := 3, ground := Go.Ground.data }, { on := 3, ground := Go.Ground.chain }], guard := none }) rfl (fun K hK => ?_) AllReadyH.nil
            go_simp
            go_at_call 8
            refine (HI.out _).mono ?_
            rintro e w54 ⟨rfl, hb⟩
            have k54 := k52.below hb
            have x54 := x52.below hb
            have r54 := r52.below hb r52.2.2.2
            refine hK.out _ _ k54.cells (fun hHeld => ?_)
            clear hK K hb k52 x52 r52
            try simp only [Act.put, List.setIfInBounds_toArray, List.set_cons_zero, List.set_cons_succ]
            refine wpAnyH_take (i := 5) (oi := { dst := some 17, op := Go.Op.move (Go.Operand.tmp 22), type := 25, pos := "exact.go:661", after := #[{ on := 4, ground := Go.Ground.data }], guard := none }) (v := ?v5_55) rfl (by kernel_rfl) (by kernel_rfl) (by kernel_rfl) (fun _ _ _ h => h) (Or.inl ⟨by rfl, ?hy5_55⟩) (by assumption) ?rest5_55
            case hy5_55 => (intro w hSw; (try dsimp only at hSw); obtain ⟨q0, q1, q2, q3, q4, q5⟩ := hSw; go_simp; try with_reducible rfl)
            try simp only [Act.put, List.setIfInBounds_toArray, List.set_cons_zero, List.set_cons_succ]
            refine wpAnyH_take (i := 6) (oi := { dst := some 23, op := Go.Op.extract (Go.Operand.tmp 17) 0, type := 24, pos := "exact.go:661", after := #[{ on := 5, ground := Go.Ground.data }], guard := none }) (v := ?v6_56) rfl (by kernel_rfl) (by kernel_rfl) (by kernel_rfl) (fun _ _ _ h => h) (Or.inl ⟨by rfl, ?hy6_56⟩) (by assumption) ?rest6_56
            case hy6_56 => (intro w hSw; (try dsimp only at hSw); obtain ⟨q0, q1, q2, q3, q4, q5⟩ := hSw; go_simp; try with_reducible rfl)
            try simp only [Act.put, List.setIfInBounds_toArray, List.set_cons_zero, List.set_cons_succ]
            refine wpAnyH_take (i := 7) (oi := { dst := some 24, op := Go.Op.extract (Go.Operand.tmp 17) 1, type := 4, pos := "exact.go:661", after := #[{ on := 5, ground := Go.Ground.data }, { on := 9, ground := Go.Ground.gcOnly Go.Departure.lateStores }], guard := none }) (v := ?v7_57) rfl (by kernel_rfl) (by kernel_rfl) (by kernel_rfl) (fun _ _ _ h => h) (Or.inl ⟨by rfl, ?hy7_57⟩) (by assumption) ?rest7_57
            case hy7_57 => (intro w hSw; (try dsimp only at hSw); obtain ⟨q0, q1, q2, q3, q4, q5⟩ := hSw; go_simp; try with_reducible rfl)
            try simp only [Act.put, List.setIfInBounds_toArray, List.set_cons_zero, List.set_cons_succ]
            refine wpAnyH_ready (rs := [9]) (by kernel_rfl) (by simp) ?_
            refine AllReadyH.cons (o := { dst := none, op := Go.Op.store 24 (Go.Operand.tmp 7) (Go.Operand.tmp 23), type := 0, pos := "exact.go:661", after := #[{ on := 8, ground := Go.Ground.data }, { on := 6, ground := Go.Ground.data }, { on := 4, ground := Go.Ground.chain }, { on := 0, ground := Go.Ground.phase }, { on := 1, ground := Go.Ground.phase }, { on := 2, ground := Go.Ground.phase }, { on := 3, ground := Go.Ground.phase }, { on := 4, ground := Go.Ground.phase }, { on := 5, ground := Go.Ground.phase }, { on := 6, ground := Go.Ground.phase }, { on := 7, ground := Go.Ground.textOnly Go.Departure.lateStores }, { on := 8, ground := Go.Ground.phase }], guard := none }) rfl (fun K hK => ?_) AllReadyH.nil
            obtain ⟨⟨c0, c1, c2, cl⟩, g⟩ := x54.box
            have g0 := g 0
            have g1 := g 1
            have g2 := g 2
            clear g
            go_simp
            clear c0 c1 c2 cl g0 g1 g2
            have y58 := x54.reg.set3 A0 A1 A2
            have k58 := x54.keep k54 A0 A1 A2
            have r58 := r54.kept y58.2.2 (by intro h; injection h with h; omega)
            refine hK.out _ _ k58.cells (fun hHeld => ?_)
            clear hK K
            try simp only [Act.put, List.setIfInBounds_toArray, List.set_cons_zero, List.set_cons_succ]
            refine wpAnyH_take (i := 10) (oi := { dst := some 8, op := Go.Op.assign (Go.Operand.tmp 24), type := 4, pos := "exact.go:661", after := #[{ on := 7, ground := Go.Ground.data }, { on := 9, ground := Go.Ground.chain }, { on := 0, ground := Go.Ground.phase }, { on := 1, ground := Go.Ground.phase }, { on := 2, ground := Go.Ground.phase }, { on := 3, ground := Go.Ground.phase }, { on := 4, ground := Go.Ground.phase }, { on := 5, ground := Go.Ground.phase }, { on := 6, ground := Go.Ground.phase }, { on := 7, ground := Go.Ground.phase }, { on := 8, ground := Go.Ground.phase }, { on := 9, ground := Go.Ground.phase }], guard := none }) (v := ?v10_59) rfl (by kernel_rfl) (by kernel_rfl) (by kernel_rfl) (fun _ _ _ h => h) (Or.inl ⟨by rfl, ?hy10_59⟩) (by assumption) ?rest10_59
            case hy10_59 => (intro w hSw; (try dsimp only at hSw); obtain ⟨q0, q1, q2, q3, q4, q5⟩ := hSw; go_simp; try with_reducible rfl)
            try simp only [Act.put, List.setIfInBounds_toArray, List.set_cons_zero, List.set_cons_succ]
            refine wpAnyH_done (by kernel_rfl) ?_ _
            go_wp2_with fail
            go_meet
            exact ⟨_, rfl, rfl, k58.1, r58, y58.1⟩
        · go_simp
          have k60 := k42.alloc (.cells #[.int .i64 0, .int .i64 0, .int .i64 0] 24)
          have x60 := Box3.new k42 24
          have r60 := r42.below ((Below.refl w42.heap.size w42).alloc (Nat.le_refl _) (.cells #[.int .i64 0, .int .i64 0, .int .i64 0] 24)) r42.2.2.2
          have n60 := Nat.ne_of_lt r42.2.2.2
          refine hK.out _ _ k60.cells (fun hHeld => ?_)
          clear hK K k42 r42
          try simp only [Act.put, List.setIfInBounds_toArray, List.set_cons_zero, List.set_cons_succ]
          obtain ⟨bx, hbx⟩ : ∃ n, w42.heap.size = n := ⟨_, rfl⟩
          rw [hbx] at x60 n60 ⊢
          clear hbx
          obtain ⟨W61, hW61⟩ : ∃ W, (w42.alloc (.cells #[.int .i64 0, .int .i64 0, .int .i64 0] 24)) = W := ⟨_, rfl⟩
          rw [hW61] at k60 x60 r60 hHeld ⊢
          clear hW61
          refine wpAnyH_ready (rs := [3]) (by kernel_rfl) (by simp) ?_
          refine AllReadyH.cons (o := { dst := some 21, op := Go.Op.call { callee := Go.Callee.value (Go.Operand.func 7), args := #[Go.Operand.tmp 20], argTypes := #[23] }, type := 24, pos := "exact.go:661", after := #[{ on := 2, ground := Go.Ground.data }, { on := 1, ground := Go.Ground.chain }], guard := none }) rfl (fun K hK => ?_) AllReadyH.nil
          go_simp
          go_at_call 7
          refine (HT2.out _).mono ?_
          rintro e w62 ⟨rfl, hb⟩
          have k62 := k60.below hb
          have x62 := x60.below hb
          have r62 := r60.below hb r60.2.2.2
          refine hK.out _ _ k62.cells (fun hHeld => ?_)
          clear hK K hb k60 x60 r60
          try simp only [Act.put, List.setIfInBounds_toArray, List.set_cons_zero, List.set_cons_succ]
          refine wpAnyH_ready (rs := [4]) (by kernel_rfl) (by simp) ?_
          refine AllReadyH.cons (o := { dst := some 22, op := Go.Op.call { callee := Go.Callee.value (Go.Operand.func 8), args := #[Go.Operand.tmp 19, Go.Operand.tmp 21], argTypes := #[24, 24] }, type := 25, pos := "exact.go:661", after := #[{ on := 1, ground := Go.Ground.data }, { on := 3, ground := Go.Ground.data }, { on := 3, ground := Go.Ground.chain }], guard := none }) rfl (fun K hK => ?_) AllReadyH.nil
          go_simp
          go_at_call 8
          refine (HI.out _).mono ?_
          rintro e w63 ⟨rfl, hb⟩
          have k63 := k62.below hb
          have x63 := x62.below hb
          have r63 := r62.below hb r62.2.2.2
          refine hK.out _ _ k63.cells (fun hHeld => ?_)
          clear hK K hb k62 x62 r62
          try simp only [Act.put, List.setIfInBounds_toArray, List.set_cons_zero, List.set_cons_succ]
          refine wpAnyH_take (i := 5) (oi := { dst := some 17, op := Go.Op.move (Go.Operand.tmp 22), type := 25, pos := "exact.go:661", after := #[{ on := 4, ground := Go.Ground.data }], guard := none }) (v := ?v5_64) rfl (by kernel_rfl) (by kernel_rfl) (by kernel_rfl) (fun _ _ _ h => h) (Or.inl ⟨by rfl, ?hy5_64⟩) (by assumption) ?rest5_64
          case hy5_64 => (intro w hSw; (try dsimp only at hSw); obtain ⟨q0, q1, q2, q3, q4, q5⟩ := hSw; go_simp; try with_reducible rfl)
          try simp only [Act.put, List.setIfInBounds_toArray, List.set_cons_zero, List.set_cons_succ]
          refine wpAnyH_take (i := 6) (oi := { dst := some 23, op := Go.Op.extract (Go.Operand.tmp 17) 0, type := 24, pos := "exact.go:661", after := #[{ on := 5, ground := Go.Ground.data }], guard := none }) (v := ?v6_65) rfl (by kernel_rfl) (by kernel_rfl) (by kernel_rfl) (fun _ _ _ h => h) (Or.inl ⟨by rfl, ?hy6_65⟩) (by assumption) ?rest6_65
          case hy6_65 => (intro w hSw; (try dsimp only at hSw); obtain ⟨q0, q1, q2, q3, q4, q5⟩ := hSw; go_simp; try with_reducible rfl)
          try simp only [Act.put, List.setIfInBounds_toArray, List.set_cons_zero, List.set_cons_succ]
          refine wpAnyH_take (i := 7) (oi := { dst := some 24, op := Go.Op.extract (Go.Operand.tmp 17) 1, type := 4, pos := "exact.go:661", after := #[{ on := 5, ground := Go.Ground.data }, { on := 9, ground := Go.Ground.gcOnly Go.Departure.lateStores }], guard := none }) (v := ?v7_66) rfl (by kernel_rfl) (by kernel_rfl) (by kernel_rfl) (fun _ _ _ h => h) (Or.inl ⟨by rfl, ?hy7_66⟩) (by assumption) ?rest7_66
          case hy7_66 => (intro w hSw; (try dsimp only at hSw); obtain ⟨q0, q1, q2, q3, q4, q5⟩ := hSw; go_simp; try with_reducible rfl)
          try simp only [Act.put, List.setIfInBounds_toArray, List.set_cons_zero, List.set_cons_succ]
          refine wpAnyH_ready (rs := [9]) (by kernel_rfl) (by simp) ?_
          refine AllReadyH.cons (o := { dst := none, op := Go.Op.store 24 (Go.Operand.tmp 7) (Go.Operand.tmp 23), type := 0, pos := "exact.go:661", after := #[{ on := 8, ground := Go.Ground.data }, { on := 6, ground := Go.Ground.data }, { on := 4, ground := Go.Ground.chain }, { on := 0, ground := Go.Ground.phase }, { on := 1, ground := Go.Ground.phase }, { on := 2, ground := Go.Ground.phase }, { on := 3, ground := Go.Ground.phase }, { on := 4, ground := Go.Ground.phase }, { on := 5, ground := Go.Ground.phase }, { on := 6, ground := Go.Ground.phase }, { on := 7, ground := Go.Ground.textOnly Go.Departure.lateStores }, { on := 8, ground := Go.Ground.phase }], guard := none }) rfl (fun K hK => ?_) AllReadyH.nil
          obtain ⟨⟨c0, c1, c2, cl⟩, g⟩ := x63.box
          have g0 := g 0
          have g1 := g 1
          have g2 := g 2
          clear g
          go_simp
          clear c0 c1 c2 cl g0 g1 g2
          have y67 := x63.reg.set3 A0 A1 A2
          have k67 := x63.keep k63 A0 A1 A2
          have r67 := r63.kept y67.2.2 (by intro h; injection h with h; omega)
          refine hK.out _ _ k67.cells (fun hHeld => ?_)
          clear hK K
          try simp only [Act.put, List.setIfInBounds_toArray, List.set_cons_zero, List.set_cons_succ]
          refine wpAnyH_take (i := 10) (oi := { dst := some 8, op := Go.Op.assign (Go.Operand.tmp 24), type := 4, pos := "exact.go:661", after := #[{ on := 7, ground := Go.Ground.data }, { on := 9, ground := Go.Ground.chain }, { on := 0, ground := Go.Ground.phase }, { on := 1, ground := Go.Ground.phase }, { on := 2, ground := Go.Ground.phase }, { on := 3, ground := Go.Ground.phase }, { on := 4, ground := Go.Ground.phase }, { on := 5, ground := Go.Ground.phase }, { on := 6, ground := Go.Ground.phase }, { on := 7, ground := Go.Ground.phase }, { on := 8, ground := Go.Ground.phase }, { on := 9, ground := Go.Ground.phase }], guard := none }) (v := ?v10_68) rfl (by kernel_rfl) (by kernel_rfl) (by kernel_rfl) (fun _ _ _ h => h) (Or.inl ⟨by rfl, ?hy10_68⟩) (by assumption) ?rest10_68
          case hy10_68 => (intro w hSw; (try dsimp only at hSw); obtain ⟨q0, q1, q2, q3, q4, q5⟩ := hSw; go_simp; try with_reducible rfl)
          try simp only [Act.put, List.setIfInBounds_toArray, List.set_cons_zero, List.set_cons_succ]
          refine wpAnyH_done (by kernel_rfl) ?_ _
          go_wp2_with fail
          go_meet
          exact ⟨_, rfl, rfl, k67.1, r67, y67.1⟩
      · go_simp
        have k69 := kd.alloc (.cells #[.int .i64 0, .int .i64 0, .int .i64 0] 24)
        have x69 := Box3.new kd 24
        have r69 := rd.below ((Below.refl Wd.heap.size Wd).alloc (Nat.le_refl _) (.cells #[.int .i64 0, .int .i64 0, .int .i64 0] 24)) rd.2.2.2
        have n69 := Nat.ne_of_lt rd.2.2.2
        refine hK.out _ _ k69.cells (fun hHeld => ?_)
        clear hK K kd rd
        try simp only [Act.put, List.setIfInBounds_toArray, List.set_cons_zero, List.set_cons_succ]
        obtain ⟨bx, hbx⟩ : ∃ n, Wd.heap.size = n := ⟨_, rfl⟩
        rw [hbx] at x69 n69 ⊢
        clear hbx
        obtain ⟨W70, hW70⟩ : ∃ W, (Wd.alloc (.cells #[.int .i64 0, .int .i64 0, .int .i64 0] 24)) = W := ⟨_, rfl⟩
        rw [hW70] at k69 x69 r69 hHeld ⊢
        clear hW70
        refine wpAnyH_ready (rs := [1]) (by kernel_rfl) (by simp) ?_
        refine AllReadyH.cons (o := { dst := some 19, op := Go.Op.call { callee := Go.Callee.value (Go.Operand.func 7), args := #[Go.Operand.tmp 18], argTypes := #[23] }, type := 24, pos := "exact.go:661", after := #[{ on := 0, ground := Go.Ground.data }], guard := none }) rfl (fun K hK => ?_) AllReadyH.nil
        go_simp
        go_at_call 7
        refine (HT.out _).mono ?_
        rintro e w71 ⟨rfl, hb⟩
        have k71 := k69.below hb
        have x71 := x69.below hb
        have r71 := r69.below hb r69.2.2.2
        refine hK.out _ _ k71.cells (fun hHeld => ?_)
        clear hK K hb k69 x69 r69
        try simp only [Act.put, List.setIfInBounds_toArray, List.set_cons_zero, List.set_cons_succ]
        refine wpAnyH_ready (rs := [3]) (by kernel_rfl) (by simp) ?_
        refine AllReadyH.cons (o := { dst := some 21, op := Go.Op.call { callee := Go.Callee.value (Go.Operand.func 7), args := #[Go.Operand.tmp 20], argTypes := #[23] }, type := 24, pos := "exact.go:661", after := #[{ on := 2, ground := Go.Ground.data }, { on := 1, ground := Go.Ground.chain }], guard := none }) rfl (fun K hK => ?_) AllReadyH.nil
        go_simp
        go_at_call 7
        refine (HT2.out _).mono ?_
        rintro e w72 ⟨rfl, hb⟩
        have k72 := k71.below hb
        have x72 := x71.below hb
        have r72 := r71.below hb r71.2.2.2
        refine hK.out _ _ k72.cells (fun hHeld => ?_)
        clear hK K hb k71 x71 r71
        try simp only [Act.put, List.setIfInBounds_toArray, List.set_cons_zero, List.set_cons_succ]
        refine wpAnyH_ready (rs := [4]) (by kernel_rfl) (by simp) ?_
        refine AllReadyH.cons (o := { dst := some 22, op := Go.Op.call { callee := Go.Callee.value (Go.Operand.func 8), args := #[Go.Operand.tmp 19, Go.Operand.tmp 21], argTypes := #[24, 24] }, type := 25, pos := "exact.go:661", after := #[{ on := 1, ground := Go.Ground.data }, { on := 3, ground := Go.Ground.data }, { on := 3, ground := Go.Ground.chain }], guard := none }) rfl (fun K hK => ?_) AllReadyH.nil
        go_simp
        go_at_call 8
        refine (HI.out _).mono ?_
        rintro e w73 ⟨rfl, hb⟩
        have k73 := k72.below hb
        have x73 := x72.below hb
        have r73 := r72.below hb r72.2.2.2
        refine hK.out _ _ k73.cells (fun hHeld => ?_)
        clear hK K hb k72 x72 r72
        try simp only [Act.put, List.setIfInBounds_toArray, List.set_cons_zero, List.set_cons_succ]
        refine wpAnyH_take (i := 5) (oi := { dst := some 17, op := Go.Op.move (Go.Operand.tmp 22), type := 25, pos := "exact.go:661", after := #[{ on := 4, ground := Go.Ground.data }], guard := none }) (v := ?v5_74) rfl (by kernel_rfl) (by kernel_rfl) (by kernel_rfl) (fun _ _ _ h => h) (Or.inl ⟨by rfl, ?hy5_74⟩) (by assumption) ?rest5_74
        case hy5_74 => (intro w hSw; (try dsimp only at hSw); obtain ⟨q0, q1, q2, q3, q4, q5⟩ := hSw; go_simp; try with_reducible rfl)
        try simp only [Act.put, List.setIfInBounds_toArray, List.set_cons_zero, List.set_cons_succ]
        refine wpAnyH_take (i := 6) (oi := { dst := some 23, op := Go.Op.extract (Go.Operand.tmp 17) 0, type := 24, pos := "exact.go:661", after := #[{ on := 5, ground := Go.Ground.data }], guard := none }) (v := ?v6_75) rfl (by kernel_rfl) (by kernel_rfl) (by kernel_rfl) (fun _ _ _ h => h) (Or.inl ⟨by rfl, ?hy6_75⟩) (by assumption) ?rest6_75
        case hy6_75 => (intro w hSw; (try dsimp only at hSw); obtain ⟨q0, q1, q2, q3, q4, q5⟩ := hSw; go_simp; try with_reducible rfl)
        try simp only [Act.put, List.setIfInBounds_toArray, List.set_cons_zero, List.set_cons_succ]
        refine wpAnyH_take (i := 7) (oi := { dst := some 24, op := Go.Op.extract (Go.Operand.tmp 17) 1, type := 4, pos := "exact.go:661", after := #[{ on := 5, ground := Go.Ground.data }, { on := 9, ground := Go.Ground.gcOnly Go.Departure.lateStores }], guard := none }) (v := ?v7_76) rfl (by kernel_rfl) (by kernel_rfl) (by kernel_rfl) (fun _ _ _ h => h) (Or.inl ⟨by rfl, ?hy7_76⟩) (by assumption) ?rest7_76
        case hy7_76 => (intro w hSw; (try dsimp only at hSw); obtain ⟨q0, q1, q2, q3, q4, q5⟩ := hSw; go_simp; try with_reducible rfl)
        try simp only [Act.put, List.setIfInBounds_toArray, List.set_cons_zero, List.set_cons_succ]
        refine wpAnyH_ready (rs := [9]) (by kernel_rfl) (by simp) ?_
        refine AllReadyH.cons (o := { dst := none, op := Go.Op.store 24 (Go.Operand.tmp 7) (Go.Operand.tmp 23), type := 0, pos := "exact.go:661", after := #[{ on := 8, ground := Go.Ground.data }, { on := 6, ground := Go.Ground.data }, { on := 4, ground := Go.Ground.chain }, { on := 0, ground := Go.Ground.phase }, { on := 1, ground := Go.Ground.phase }, { on := 2, ground := Go.Ground.phase }, { on := 3, ground := Go.Ground.phase }, { on := 4, ground := Go.Ground.phase }, { on := 5, ground := Go.Ground.phase }, { on := 6, ground := Go.Ground.phase }, { on := 7, ground := Go.Ground.textOnly Go.Departure.lateStores }, { on := 8, ground := Go.Ground.phase }], guard := none }) rfl (fun K hK => ?_) AllReadyH.nil
        obtain ⟨⟨c0, c1, c2, cl⟩, g⟩ := x73.box
        have g0 := g 0
        have g1 := g 1
        have g2 := g 2
        clear g
        go_simp
        clear c0 c1 c2 cl g0 g1 g2
        have y77 := x73.reg.set3 A0 A1 A2
        have k77 := x73.keep k73 A0 A1 A2
        have r77 := r73.kept y77.2.2 (by intro h; injection h with h; omega)
        refine hK.out _ _ k77.cells (fun hHeld => ?_)
        clear hK K
        try simp only [Act.put, List.setIfInBounds_toArray, List.set_cons_zero, List.set_cons_succ]
        refine wpAnyH_take (i := 10) (oi := { dst := some 8, op := Go.Op.assign (Go.Operand.tmp 24), type := 4, pos := "exact.go:661", after := #[{ on := 7, ground := Go.Ground.data }, { on := 9, ground := Go.Ground.chain }, { on := 0, ground := Go.Ground.phase }, { on := 1, ground := Go.Ground.phase }, { on := 2, ground := Go.Ground.phase }, { on := 3, ground := Go.Ground.phase }, { on := 4, ground := Go.Ground.phase }, { on := 5, ground := Go.Ground.phase }, { on := 6, ground := Go.Ground.phase }, { on := 7, ground := Go.Ground.phase }, { on := 8, ground := Go.Ground.phase }, { on := 9, ground := Go.Ground.phase }], guard := none }) (v := ?v10_78) rfl (by kernel_rfl) (by kernel_rfl) (by kernel_rfl) (fun _ _ _ h => h) (Or.inl ⟨by rfl, ?hy10_78⟩) (by assumption) ?rest10_78
        case hy10_78 => (intro w hSw; (try dsimp only at hSw); obtain ⟨q0, q1, q2, q3, q4, q5⟩ := hSw; go_simp; try with_reducible rfl)
        try simp only [Act.put, List.setIfInBounds_toArray, List.set_cons_zero, List.set_cons_succ]
        refine wpAnyH_done (by kernel_rfl) ?_ _
        go_wp2_with fail
        go_meet
        exact ⟨_, rfl, rfl, k77.1, r77, y77.1⟩
    case rest =>
      obtain ⟨c, rfl, rfl, k2, ⟨b0, b1, b2, bl⟩, ⟨c0, c1, c2, cl⟩⟩ := hcut
      clear k1 rb HS HI HT HT2
      go_wp2_with fail
      refine (eqRegister_same _ _ _ _).mono ?_
      rintro e w9 ⟨rfl, hb⟩
      have k9 := below_then k2 (Nat.le_refl _) hb
      clear b0 b1 b2 c0 c1 c2 hb k2
      cases ok
      all_goals
        go_wp2
        go_ret
        exact ⟨rfl, k9⟩
end Go.Proofs.Ytbkppjelljljcaa
