/- The walk of the law FnDistance. -/
import Derived.Test.YtpcogmpnmkmoeabDrawPil3
import Derived.Test.YtpcogmpnmkmoeabPil3
import Derived.Deep.RegionHeld3
import Derived.Deep.RegionWith
namespace Go.Proofs.Ytpcogmpnmkmoeab
open Go.RowKit
set_option linter.unusedVariables false
set_option maxRecDepth 100000
theorem ds_half (P A B : Nat) (hA : A < P) (hB : B < P) : 2 * dsN P A B ≤ P := by unfold dsN; omega
theorem ds_symm (P A B : Nat) : dsN P A B = dsN P B A := by unfold dsN; omega
theorem ds_tri (P A B M : Nat) (hA : A < P) (hB : B < P) (hM : M < P) : dsN P A B ≤ dsN P A M + dsN P M B := by unfold dsN; omega
theorem ds_zero (P A B : Nat) (hA : A < P) (hB : B < P) : dsN P A B = 0 ↔ A = B := by unfold dsN; omega
theorem ds_ways (P A B : Nat) (hA : A < P) (hB : B < P) : (A + dsN P A B) % P = B ∨ (A + P - dsN P A B) % P = B := by
  have h : A + dsN P A B = B ∨ A + dsN P A B = B + P ∨ A + P - dsN P A B = B ∨ A + P - dsN P A B = B + P := by unfold dsN; omega
  rcases h with h | h | h | h
  · left; rw [h]; exact Nat.mod_eq_of_lt hB
  · left; rw [h, Nat.add_mod_right]; exact Nat.mod_eq_of_lt hB
  · right; rw [h]; exact Nat.mod_eq_of_lt hB
  · right; rw [h, Nat.add_mod_right]; exact Nat.mod_eq_of_lt hB
/-- What the law's tests are about. -/
theorem ds_tests (P A B M N U D D1 D2 : Nat) (hA : A < P) (hB : B < P) (hM : M < P) (hN : dsN P A B = N) (hU : (A + N) % P = U) (hD : (A + P - N) % P = D) (h1 : dsN P A M = D1) (h2 : dsN P M B = D2) :
    2 * N ≤ P ∧ N ≤ D1 + D2 ∧ ((((A : Int) == (B : Int)) = true ∧ ((N : Int) == 0) = true) ∨ (((A : Int) == (B : Int)) = false ∧ ((N : Int) == 0) = false)) ∧
      (U = B ∨ (((U : Int) == (B : Int)) = false ∧ ((D : Int) == (B : Int)) = true)) := by
  have a1 := ds_half P A B hA hB
  have a2 := ds_tri P A B M hA hB hM
  have a3 := ds_zero P A B hA hB
  have a4 := ds_ways P A B hA hB
  rw [hN] at a1 a2 a3 a4
  rw [h1, h2] at a2
  rw [hU, hD] at a4
  refine ⟨a1, a2, ?_, ?_⟩
  · by_cases e : A = B
    · exact .inl ⟨by simp [e], by simp [a3.2 e]⟩
    · have : N ≠ 0 := fun h => e (a3.1 h)
      exact .inr ⟨by simp; omega, by simp; omega⟩
  · by_cases e : U = B
    · exact .inl e
    · refine .inr ⟨by simp; omega, ?_⟩
      rcases a4 with h | h
      · exact absurd h e
      · simp [h]
theorem ds_mods (P A N U D : Nat) (hP : 1 ≤ P) (hNP : N ≤ P) (hU : (A + N) % P = U) (hD : (A + P - N) % P = D) :
    ((A : Int) + (N : Int)).tmod (P : Int) = (U : Int) ∧ ((A : Int) - (N : Int) + (P : Int)).tmod (P : Int) = (D : Int) := by
  constructor
  · rw [Int.tmod_eq_emod_of_nonneg (by omega), ← hU, Int.natCast_emod, Int.natCast_add]
  · rw [Int.tmod_eq_emod_of_nonneg (by omega), ← hD, show (A : Int) - (N : Int) + (P : Int) = ((A + P - N : Nat) : Int) by omega, Int.natCast_emod]
set_option maxHeartbeats 3200000 in
theorem fnDistance_walk (a0 : Option Addr) (len0 cap0 : Nat) (z0 : List Int) (a1 : Option Addr) (len1 cap1 : Nat) (z1 : List Int) (w : World) (w0 : IsBytes w a0 len0 cap0 z0) (w1 : IsBytes w a1 len1 cap1 z1) :
    Calls Try.prog 9 #[.slice a0 len0 cap0, .slice a1 len1 cap1] w fun e w' => e = .returned (.bool true) ∧ Below w.heap.size w w' := by
  by_cases hl0 : 1048576 < len0
  · go_enter Try.func9, Try.ntmps9
    go_wp2
    go_ret
    exact ⟨rfl, Below.refl _ _⟩
  by_cases hl1 : 1048576 < len1
  · go_enter Try.func9, Try.ntmps9
    go_wp2
    go_ret
    exact ⟨rfl, Below.refl _ _⟩
  clear w1
  go_enter Try.func9, Try.ntmps9
  go_wp2_with fail
  refine (drawDist_any a0 len0 cap0 z0 _ w0).mono ?_
  rintro e W1 ⟨c, g, x, y, rfl, hc, hg, hx, hy, bc⟩
  clear w0
  have b1 := bc.alloc bc.size (.cells #[.string c, .int .i64 g] 28)
  have Q1 := PilAt.new W1 28 c g
  have hI := fun a b w => iDist_any c g a b w (by omega)
  have hS := fun a b w => sDist_any c g a b w (by omega)
  by_cases hv : offB c g x = true ∧ offB c g y = true
  · obtain ⟨v1, v2⟩ := hv
    obtain ⟨p1, p2, p3⟩ := (offB_iff _ _ _).1 v1
    obtain ⟨-, p4, p5⟩ := (offB_iff _ _ _).1 v2
    obtain ⟨-, -, -, -, -, -, -, -, -, P1, P2⟩ := pil_nat p1
    have hL := fun w => iPLen_any c g w (by omega)
    have hle : lenAns c g = (perL c g : Int) := by unfold lenAns; rw [p1]; rfl
    rw [hle] at hL
    obtain ⟨A, rfl⟩ : ∃ A : Nat, x = A := ⟨x.toNat, by omega⟩
    obtain ⟨B, rfl⟩ : ∃ B : Nat, y = B := ⟨y.toNat, by omega⟩
    obtain ⟨M, hM⟩ : ∃ M, len1 % perL c g = M := ⟨_, rfl⟩
    have hM1 : M < perL c g := by rw [← hM]; exact Nat.mod_lt _ (by omega)
    have v3 : offB c g (M : Int) = true := (offB_iff _ _ _).2 ⟨p1, by omega, by omega⟩
    have hIab := fun w => hI A B w
    have hSab := fun w => hS A B w
    have hIba := fun w => hI B A w
    have hIam := fun w => hI A M w
    have hImb := fun w => hI M B w
    rw [ds_yes v1 v2] at hIab hSab
    rw [ds_yes v2 v1, ds_symm] at hIba
    rw [ds_yes v1 v3] at hIam
    rw [ds_yes v3 v2] at hImb
    clear hI hS v1 v2 v3 p1 hle
    obtain ⟨P, hP⟩ : ∃ P, perL c g = P := ⟨_, rfl⟩
    rw [hP] at hIab hSab hIba hIam hImb hL hM hM1 P1 P2 p3 p5
    obtain ⟨N, hN⟩ : ∃ N, dsN P A B = N := ⟨_, rfl⟩
    obtain ⟨D1, h1⟩ : ∃ N, dsN P A M = N := ⟨_, rfl⟩
    obtain ⟨D2, h2⟩ : ∃ N, dsN P M B = N := ⟨_, rfl⟩
    obtain ⟨U, hU⟩ : ∃ U, (A + N) % P = U := ⟨_, rfl⟩
    obtain ⟨D, hD⟩ : ∃ U, (A + P - N) % P = U := ⟨_, rfl⟩
    rw [hN] at hIab hSab hIba
    rw [h1] at hIam
    rw [h2] at hImb
    obtain ⟨t1, t2, t3, t4⟩ := ds_tests P A B M N U D D1 D2 (by omega) (by omega) hM1 hN hU hD h1 h2
    obtain ⟨m1, m2⟩ := ds_mods P A N U D P1 (by omega) hU hD
    have m3 : (len1 : Int).tmod (P : Int) = (M : Int) := by rw [Int.tmod_eq_emod_of_nonneg (by omega), ← hM]; omega
    have q1 : D1 ≤ P := by have := ds_half P A M (by omega) hM1; omega
    have q2 : D2 ≤ P := by have := ds_half P M B hM1 (by omega); omega
    obtain ⟨N2, hN2⟩ : ∃ N2 : Nat, 2 * N = N2 := ⟨_, rfl⟩
    obtain ⟨S, hS⟩ : ∃ S : Nat, D1 + D2 = S := ⟨_, rfl⟩
    have e1 : IntKind.i64.wrap (2 * (N : Int)) = (N2 : Int) := by rw [IntWalk.i64_in _ (by omega)]; omega
    have e2 : IntKind.i64.wrap ((D1 : Int) + (D2 : Int)) = (S : Int) := by rw [IntWalk.i64_in _ (by omega)]; omega
    have e3 : decide ((N2 : Int) ≤ (P : Int)) = true := decide_eq_true (by omega)
    have e4 : decide ((N : Int) ≤ (S : Int)) = true := decide_eq_true (by omega)
    have e5 : (N2 : Int) ≤ (P : Int) := by omega
    have e6 : (N : Int) ≤ (S : Int) := by omega
    have nA : A < 3000 := by omega
    have nN : N < 3000 := by omega
    have n0 : ¬ ((N : Int) < 0) := by omega
    have z1 : ¬ ((P : Int) = 0) := by omega
    have z2 : ((P : Int) == 0) = false := by simp; omega
    have z3 : ¬ P = 0 := by omega
    have HIab := Lib.hid hIab
    have HSab := Lib.hid hSab
    have HIba := Lib.hid hIba
    have HIam := Lib.hid hIam
    have HImb := Lib.hid hImb
    have HL := Lib.hid hL
    clear hIab hSab hIba hIam hImb hL hM hM1 hP hN h1 h2 hU hD hN2 hS t1 t2 q1 q2 p2 p3 p4 p5 hg hx hy bc
    obtain ⟨d0, d1, dl⟩ := id Q1
    go_wp2_with fail
    refine (HIab.out _).mono ?_
    rintro e W2 ⟨rfl, h2⟩
    have b2 := below_then b1 (Nat.le_refl _) h2
    have Q2 := Q1.below h2 (by simp)
    clear b1 Q1 h2 d0 d1 dl
    obtain ⟨d0, d1, dl⟩ := id Q2
    go_wp2_with fail
    refine (HSab.out _).mono ?_
    rintro e W3 ⟨rfl, h3⟩
    have b3 := below_then b2 (Nat.le_refl _) h3
    have Q3 := Q2.below h3 Q2.2.2
    clear b2 Q2 h3 d0 d1 dl
    obtain ⟨d0, d1, dl⟩ := id Q3
    go_wp2_with fail
    refine (HL.out _).mono ?_
    rintro e W4 ⟨rfl, h4⟩
    have b4 := below_then b3 (Nat.le_refl _) h4
    have Q4 := Q3.below h4 Q3.2.2
    clear b3 Q3 h4 d0 d1 dl
    obtain ⟨d0, d1, dl⟩ := id Q4
    go_wp2_with fail
    clear m1 m2 m3
    have r0 := Below.refl W4.heap.size W4
    obtain ⟨bx, hbx⟩ : ∃ b, W1.heap.size = b := ⟨_, rfl⟩
    rw [hbx] at Q4 d0 d1 dl ⊢
    clear hbx
    rcases t4 with rfl | ⟨s3, s4⟩
    · refine wp_region_held_drew (S := (fun wx => Below W4.heap.size W4 wx ∧ wx.cell? ⟨bx, 0, none⟩ = some (.string c) ∧ wx.cell? ⟨bx, 1, none⟩ = some (.int .i64 g))) (by kernel_rfl) ⟨r0.drew, d0, d1⟩ (fun hHeld => ?_)
      refine wpAnyH_take (i := 0) (oi := { dst := some 65, op := Op.load 28 (Operand.tmp 5), type := 28, pos := "laws.go:1656", after := #[], guard := none }) (v := ?v0) rfl (by kernel_rfl) (by kernel_rfl) (by kernel_rfl) (fun _ _ _ h => h) (Or.inl ⟨by rfl, ?hy0⟩) (by assumption) ?rest0
      case hy0 => (intro w hSw; (try dsimp only at hSw); go_simp; try with_reducible rfl)
      try simp only [Act.put, List.setIfInBounds_toArray, List.set_cons_zero, List.set_cons_succ]
      refine wpAnyH_take (i := 1) (oi := { dst := some 66, op := Op.move (Operand.tmp 7), type := 3, pos := "laws.go:1656", after := #[], guard := none }) (v := ?v1) rfl (by kernel_rfl) (by kernel_rfl) (by kernel_rfl) (fun _ _ _ h => h) (Or.inl ⟨by rfl, ?hy1⟩) (by assumption) ?rest1
      case hy1 => (intro w hSw; (try dsimp only at hSw); go_simp; try with_reducible rfl)
      try simp only [Act.put, List.setIfInBounds_toArray, List.set_cons_zero, List.set_cons_succ]
      refine wpAnyH_take (i := 2) (oi := { dst := some 67, op := Op.move (Operand.tmp 6), type := 3, pos := "laws.go:1656", after := #[], guard := none }) (v := ?v2) rfl (by kernel_rfl) (by kernel_rfl) (by kernel_rfl) (fun _ _ _ h => h) (Or.inl ⟨by rfl, ?hy2⟩) (by assumption) ?rest2
      case hy2 => (intro w hSw; (try dsimp only at hSw); go_simp; try with_reducible rfl)
      try simp only [Act.put, List.setIfInBounds_toArray, List.set_cons_zero, List.set_cons_succ]
      refine wpAnyH_take (i := 4) (oi := { dst := some 69, op := Op.move (Operand.tmp 8), type := 3, pos := "laws.go:1656", after := #[], guard := none }) (v := ?v4) rfl (by kernel_rfl) (by kernel_rfl) (by kernel_rfl) (fun _ _ _ h => h) (Or.inl ⟨by rfl, ?hy4⟩) (by assumption) ?rest4
      case hy4 => (intro w hSw; (try dsimp only at hSw); go_simp; try with_reducible rfl)
      try simp only [Act.put, List.setIfInBounds_toArray, List.set_cons_zero, List.set_cons_succ]
      refine wpAnyH_ready (rs := [3]) (by kernel_rfl) (by simp) ?_
      refine AllReadyH.cons (o := { dst := some 68, op := Op.call { callee := Callee.value (Operand.func 32), args := #[Operand.tmp 65, Operand.tmp 66, Operand.tmp 67], argTypes := #[28, 3, 3] }, type := 3, pos := "laws.go:1656", after := #[{ on := 0, ground := Ground.data }, { on := 1, ground := Ground.data }, { on := 2, ground := Ground.data }], guard := none }) rfl (fun K hK => ?_) AllReadyH.nil
      go_simp
      go_at_call 32
      refine (HIba.out _).mono ?_
      rintro e w5 ⟨rfl, hB⟩
      have k1 := below_then r0.drew (Nat.le_refl _) hB
      have y1 := Q4.below k1 dl
      clear hB
      refine hK.out _ _ ⟨k1, y1.1, y1.2.1⟩ (fun hHeld => ?_)
      clear hK K
      try simp only [Act.put, List.setIfInBounds_toArray, List.set_cons_zero, List.set_cons_succ]
      refine wpAnyH_take (i := 5) (oi := { dst := some 70, op := Op.binOp BinOp.eql 3 (Operand.tmp 68) (Operand.tmp 69) 3, type := 4, pos := "laws.go:1656", after := #[{ on := 3, ground := Ground.data }, { on := 4, ground := Ground.data }], guard := none }) (v := ?v5) rfl (by kernel_rfl) (by kernel_rfl) (by kernel_rfl) (fun _ _ _ h => h) (Or.inl ⟨by rfl, ?hy5⟩) (by assumption) ?rest5
      case hy5 => (intro w hSw; (try dsimp only at hSw); go_simp; try with_reducible rfl)
      try simp only [Act.put, List.setIfInBounds_toArray, List.set_cons_zero, List.set_cons_succ]
      refine wpAnyH_take (i := 6) (oi := { dst := some 71, op := Op.move (Operand.tmp 70), type := 4, pos := "laws.go:1656", after := #[{ on := 5, ground := Ground.data }, { on := 3, ground := Ground.chain }], guard := none }) (v := ?v6) rfl (by kernel_rfl) (by kernel_rfl) (by kernel_rfl) (fun _ _ _ h => h) (Or.inl ⟨by rfl, ?hy6⟩) (by assumption) ?rest6
      case hy6 => (intro w hSw; (try dsimp only at hSw); go_simp; try with_reducible rfl)
      try simp only [Act.put, List.setIfInBounds_toArray, List.set_cons_zero, List.set_cons_succ]
      refine wpAnyH_take (i := 7) (oi := { dst := some 72, op := Op.move (Operand.tmp 11), type := 3, pos := "laws.go:1656", after := #[{ on := 6, ground := Ground.guard }], guard := some (6, true) }) (v := ?v7) rfl (by kernel_rfl) (by kernel_rfl) (by kernel_rfl) (fun _ _ _ h => h) (Or.inl ⟨by rfl, ?hy7⟩) (by assumption) ?rest7
      case hy7 => (intro w hSw; (try dsimp only at hSw); go_simp; try with_reducible rfl)
      try simp only [Act.put, List.setIfInBounds_toArray, List.set_cons_zero, List.set_cons_succ]
      refine wpAnyH_take (i := 8) (oi := { dst := some 73, op := Op.move (Operand.tmp 7), type := 3, pos := "laws.go:1656", after := #[{ on := 6, ground := Ground.guard }], guard := some (6, true) }) (v := ?v8) rfl (by kernel_rfl) (by kernel_rfl) (by kernel_rfl) (fun _ _ _ h => h) (Or.inl ⟨by rfl, ?hy8⟩) (by assumption) ?rest8
      case hy8 => (intro w hSw; (try dsimp only at hSw); go_simp; try with_reducible rfl)
      try simp only [Act.put, List.setIfInBounds_toArray, List.set_cons_zero, List.set_cons_succ]
      refine wpAnyH_take (i := 9) (oi := { dst := some 74, op := Op.binOp BinOp.eql 3 (Operand.tmp 72) (Operand.tmp 73) 3, type := 4, pos := "laws.go:1656", after := #[{ on := 7, ground := Ground.data }, { on := 8, ground := Ground.data }, { on := 6, ground := Ground.guard }], guard := some (6, true) }) (v := ?v9) rfl (by kernel_rfl) (by kernel_rfl) (by kernel_rfl) (fun _ _ _ h => h) (Or.inl ⟨by rfl, ?hy9⟩) (by assumption) ?rest9
      case hy9 => (intro w hSw; (try dsimp only at hSw); go_simp; try with_reducible rfl)
      try simp only [Act.put, List.setIfInBounds_toArray, List.set_cons_zero, List.set_cons_succ]
      refine wpAnyH_take (i := 10) (oi := { dst := some 75, op := Op.move (Operand.tmp 74), type := 4, pos := "laws.go:1656", after := #[{ on := 9, ground := Ground.data }, { on := 6, ground := Ground.chain }, { on := 6, ground := Ground.guard }], guard := some (6, true) }) (v := ?v10) rfl (by kernel_rfl) (by kernel_rfl) (by kernel_rfl) (fun _ _ _ h => h) (Or.inl ⟨by rfl, ?hy10⟩) (by assumption) ?rest10
      case hy10 => (intro w hSw; (try dsimp only at hSw); go_simp; try with_reducible rfl)
      try simp only [Act.put, List.setIfInBounds_toArray, List.set_cons_zero, List.set_cons_succ]
      refine wpAnyH_take (i := 11) (oi := { dst := some 76, op := Op.move (Operand.tmp 12), type := 3, pos := "laws.go:1656", after := #[{ on := 10, ground := Ground.guard }], guard := some (10, false) }) (v := undef) rfl (by kernel_rfl) (by kernel_rfl) (by kernel_rfl) (fun _ _ _ h => h) (Or.inr ⟨by rfl, rfl⟩) (by assumption) ?_
      try simp only [Act.put, List.setIfInBounds_toArray, List.set_cons_zero, List.set_cons_succ]
      refine wpAnyH_take (i := 12) (oi := { dst := some 77, op := Op.move (Operand.tmp 7), type := 3, pos := "laws.go:1656", after := #[{ on := 10, ground := Ground.guard }], guard := some (10, false) }) (v := undef) rfl (by kernel_rfl) (by kernel_rfl) (by kernel_rfl) (fun _ _ _ h => h) (Or.inr ⟨by rfl, rfl⟩) (by assumption) ?_
      try simp only [Act.put, List.setIfInBounds_toArray, List.set_cons_zero, List.set_cons_succ]
      refine wpAnyH_take (i := 13) (oi := { dst := some 78, op := Op.binOp BinOp.eql 3 (Operand.tmp 76) (Operand.tmp 77) 3, type := 4, pos := "laws.go:1656", after := #[{ on := 11, ground := Ground.data }, { on := 12, ground := Ground.data }, { on := 10, ground := Ground.guard }], guard := some (10, false) }) (v := undef) rfl (by kernel_rfl) (by kernel_rfl) (by kernel_rfl) (fun _ _ _ h => h) (Or.inr ⟨by rfl, rfl⟩) (by assumption) ?_
      try simp only [Act.put, List.setIfInBounds_toArray, List.set_cons_zero, List.set_cons_succ]
      refine wpAnyH_take (i := 14) (oi := { dst := some 79, op := Op.pick (Operand.tmp 75) (Operand.const (Value.bool true)) (Operand.tmp 78), type := 4, pos := "laws.go:1656", after := #[{ on := 10, ground := Ground.data }, { on := 13, ground := Ground.data }, { on := 6, ground := Ground.guard }], guard := some (6, true) }) (v := ?v14) rfl (by kernel_rfl) (by kernel_rfl) (by kernel_rfl) (fun _ _ _ h => h) (Or.inl ⟨by rfl, ?hy14⟩) (by assumption) ?rest14
      case hy14 => (intro w hSw; (try dsimp only at hSw); go_simp; try with_reducible rfl)
      try simp only [Act.put, List.setIfInBounds_toArray, List.set_cons_zero, List.set_cons_succ]
      refine wpAnyH_take (i := 15) (oi := { dst := some 80, op := Op.pick (Operand.tmp 71) (Operand.tmp 79) (Operand.const (Value.bool false)), type := 4, pos := "laws.go:1656", after := #[{ on := 6, ground := Ground.data }, { on := 14, ground := Ground.data }], guard := none }) (v := ?v15) rfl (by kernel_rfl) (by kernel_rfl) (by kernel_rfl) (fun _ _ _ h => h) (Or.inl ⟨by rfl, ?hy15⟩) (by assumption) ?rest15
      case hy15 => (intro w hSw; (try dsimp only at hSw); go_simp; try with_reducible rfl)
      try simp only [Act.put, List.setIfInBounds_toArray, List.set_cons_zero, List.set_cons_succ]
      refine wpAnyH_take (i := 16) (oi := { dst := some 81, op := Op.move (Operand.tmp 80), type := 4, pos := "laws.go:1656", after := #[{ on := 15, ground := Ground.data }, { on := 10, ground := Ground.chain }], guard := none }) (v := ?v16) rfl (by kernel_rfl) (by kernel_rfl) (by kernel_rfl) (fun _ _ _ h => h) (Or.inl ⟨by rfl, ?hy16⟩) (by assumption) ?rest16
      case hy16 => (intro w hSw; (try dsimp only at hSw); go_simp; try with_reducible rfl)
      try simp only [Act.put, List.setIfInBounds_toArray, List.set_cons_zero, List.set_cons_succ]
      refine wpAnyH_take (i := 17) (oi := { dst := some 82, op := Op.move (Operand.tmp 8), type := 3, pos := "laws.go:1656", after := #[{ on := 16, ground := Ground.guard }], guard := some (16, true) }) (v := ?v17) rfl (by kernel_rfl) (by kernel_rfl) (by kernel_rfl) (fun _ _ _ h => h) (Or.inl ⟨by rfl, ?hy17⟩) (by assumption) ?rest17
      case hy17 => (intro w hSw; (try dsimp only at hSw); go_simp; try with_reducible rfl)
      try simp only [Act.put, List.setIfInBounds_toArray, List.set_cons_zero, List.set_cons_succ]
      refine wpAnyH_take (i := 18) (oi := { dst := some 83, op := Op.binOp BinOp.mul 3 (Operand.const (Value.int IntKind.i64 2)) (Operand.tmp 82) 3, type := 3, pos := "laws.go:1656", after := #[{ on := 17, ground := Ground.data }, { on := 16, ground := Ground.guard }], guard := some (16, true) }) (v := ?v18) rfl (by kernel_rfl) (by kernel_rfl) (by kernel_rfl) (fun _ _ _ h => h) (Or.inl ⟨by rfl, ?hy18⟩) (by assumption) ?rest18
      case hy18 => (intro w hSw; (try dsimp only at hSw); go_simp; try with_reducible rfl)
      try simp only [Act.put, List.setIfInBounds_toArray, List.set_cons_zero, List.set_cons_succ]
      refine wpAnyH_take (i := 19) (oi := { dst := some 84, op := Op.move (Operand.tmp 9), type := 3, pos := "laws.go:1656", after := #[{ on := 16, ground := Ground.guard }], guard := some (16, true) }) (v := ?v19) rfl (by kernel_rfl) (by kernel_rfl) (by kernel_rfl) (fun _ _ _ h => h) (Or.inl ⟨by rfl, ?hy19⟩) (by assumption) ?rest19
      case hy19 => (intro w hSw; (try dsimp only at hSw); go_simp; try with_reducible rfl)
      try simp only [Act.put, List.setIfInBounds_toArray, List.set_cons_zero, List.set_cons_succ]
      refine wpAnyH_take (i := 20) (oi := { dst := some 85, op := Op.binOp BinOp.leq 3 (Operand.tmp 83) (Operand.tmp 84) 3, type := 4, pos := "laws.go:1656", after := #[{ on := 18, ground := Ground.data }, { on := 19, ground := Ground.data }, { on := 16, ground := Ground.guard }], guard := some (16, true) }) (v := ?v20) rfl (by kernel_rfl) (by kernel_rfl) (by kernel_rfl) (fun _ _ _ h => h) (Or.inl ⟨by rfl, ?hy20⟩) (by assumption) ?rest20
      case hy20 => (intro w hSw; (try dsimp only at hSw); go_simp; try with_reducible rfl)
      try simp only [Act.put, List.setIfInBounds_toArray, List.set_cons_zero, List.set_cons_succ]
      refine wpAnyH_take (i := 21) (oi := { dst := some 86, op := Op.pick (Operand.tmp 81) (Operand.tmp 85) (Operand.const (Value.bool false)), type := 4, pos := "laws.go:1656", after := #[{ on := 16, ground := Ground.data }, { on := 20, ground := Ground.data }], guard := none }) (v := ?v21) rfl (by kernel_rfl) (by kernel_rfl) (by kernel_rfl) (fun _ _ _ h => h) (Or.inl ⟨by rfl, ?hy21⟩) (by assumption) ?rest21
      case hy21 => (intro w hSw; (try dsimp only at hSw); go_simp; try with_reducible rfl)
      try simp only [Act.put, List.setIfInBounds_toArray, List.set_cons_zero, List.set_cons_succ]
      refine wpAnyH_take (i := 22) (oi := { dst := some 87, op := Op.move (Operand.tmp 86), type := 4, pos := "laws.go:1656", after := #[{ on := 21, ground := Ground.data }, { on := 16, ground := Ground.chain }], guard := none }) (v := ?v22) rfl (by kernel_rfl) (by kernel_rfl) (by kernel_rfl) (fun _ _ _ h => h) (Or.inl ⟨by rfl, ?hy22⟩) (by assumption) ?rest22
      case hy22 => (intro w hSw; (try dsimp only at hSw); go_simp; try with_reducible rfl)
      try simp only [Act.put, List.setIfInBounds_toArray, List.set_cons_zero, List.set_cons_succ]
      refine wpAnyH_take (i := 23) (oi := { dst := some 88, op := Op.move (Operand.tmp 8), type := 3, pos := "laws.go:1656", after := #[{ on := 22, ground := Ground.guard }], guard := some (22, true) }) (v := ?v23) rfl (by kernel_rfl) (by kernel_rfl) (by kernel_rfl) (fun _ _ _ h => h) (Or.inl ⟨by rfl, ?hy23⟩) (by assumption) ?rest23
      case hy23 => (intro w hSw; (try dsimp only at hSw); go_simp; try with_reducible rfl)
      try simp only [Act.put, List.setIfInBounds_toArray, List.set_cons_zero, List.set_cons_succ]
      refine wpAnyH_take (i := 24) (oi := { dst := some 89, op := Op.load 28 (Operand.tmp 5), type := 28, pos := "laws.go:1656", after := #[{ on := 22, ground := Ground.guard }], guard := some (22, true) }) (v := ?v24) rfl (by kernel_rfl) (by kernel_rfl) (by kernel_rfl) (fun _ _ _ h => h) (Or.inl ⟨by rfl, ?hy24⟩) (by assumption) ?rest24
      case hy24 => (intro w hSw; (try dsimp only at hSw); go_simp; try with_reducible rfl)
      try simp only [Act.put, List.setIfInBounds_toArray, List.set_cons_zero, List.set_cons_succ]
      refine wpAnyH_take (i := 25) (oi := { dst := some 90, op := Op.move (Operand.tmp 6), type := 3, pos := "laws.go:1656", after := #[{ on := 22, ground := Ground.guard }], guard := some (22, true) }) (v := ?v25) rfl (by kernel_rfl) (by kernel_rfl) (by kernel_rfl) (fun _ _ _ h => h) (Or.inl ⟨by rfl, ?hy25⟩) (by assumption) ?rest25
      case hy25 => (intro w hSw; (try dsimp only at hSw); go_simp; try with_reducible rfl)
      try simp only [Act.put, List.setIfInBounds_toArray, List.set_cons_zero, List.set_cons_succ]
      refine wpAnyH_take (i := 26) (oi := { dst := some 91, op := Op.move (Operand.tmp 10), type := 3, pos := "laws.go:1656", after := #[{ on := 22, ground := Ground.guard }], guard := some (22, true) }) (v := ?v26) rfl (by kernel_rfl) (by kernel_rfl) (by kernel_rfl) (fun _ _ _ h => h) (Or.inl ⟨by rfl, ?hy26⟩) (by assumption) ?rest26
      case hy26 => (intro w hSw; (try dsimp only at hSw); go_simp; try with_reducible rfl)
      try simp only [Act.put, List.setIfInBounds_toArray, List.set_cons_zero, List.set_cons_succ]
      refine wpAnyH_take (i := 28) (oi := { dst := some 93, op := Op.load 28 (Operand.tmp 5), type := 28, pos := "laws.go:1656", after := #[{ on := 22, ground := Ground.guard }], guard := some (22, true) }) (v := ?v28) rfl (by kernel_rfl) (by kernel_rfl) (by kernel_rfl) (fun _ _ _ h => h) (Or.inl ⟨by rfl, ?hy28⟩) (by assumption) ?rest28
      case hy28 => (intro w hSw; (try dsimp only at hSw); go_simp; try with_reducible rfl)
      try simp only [Act.put, List.setIfInBounds_toArray, List.set_cons_zero, List.set_cons_succ]
      refine wpAnyH_take (i := 29) (oi := { dst := some 94, op := Op.move (Operand.tmp 10), type := 3, pos := "laws.go:1656", after := #[{ on := 22, ground := Ground.guard }], guard := some (22, true) }) (v := ?v29) rfl (by kernel_rfl) (by kernel_rfl) (by kernel_rfl) (fun _ _ _ h => h) (Or.inl ⟨by rfl, ?hy29⟩) (by assumption) ?rest29
      case hy29 => (intro w hSw; (try dsimp only at hSw); go_simp; try with_reducible rfl)
      try simp only [Act.put, List.setIfInBounds_toArray, List.set_cons_zero, List.set_cons_succ]
      refine wpAnyH_take (i := 30) (oi := { dst := some 95, op := Op.move (Operand.tmp 7), type := 3, pos := "laws.go:1656", after := #[{ on := 22, ground := Ground.guard }], guard := some (22, true) }) (v := ?v30) rfl (by kernel_rfl) (by kernel_rfl) (by kernel_rfl) (fun _ _ _ h => h) (Or.inl ⟨by rfl, ?hy30⟩) (by assumption) ?rest30
      case hy30 => (intro w hSw; (try dsimp only at hSw); go_simp; try with_reducible rfl)
      try simp only [Act.put, List.setIfInBounds_toArray, List.set_cons_zero, List.set_cons_succ]
      refine wpAnyH_ready (rs := [27]) (by kernel_rfl) (by simp) ?_
      refine AllReadyH.cons (o := { dst := some 92, op := Op.call { callee := Callee.value (Operand.func 32), args := #[Operand.tmp 89, Operand.tmp 90, Operand.tmp 91], argTypes := #[28, 3, 3] }, type := 3, pos := "laws.go:1656", after := #[{ on := 24, ground := Ground.data }, { on := 25, ground := Ground.data }, { on := 26, ground := Ground.data }, { on := 22, ground := Ground.chain }, { on := 22, ground := Ground.guard }], guard := some (22, true) }) rfl (fun K hK => ?_) AllReadyH.nil
      go_simp
      go_at_call 32
      refine (HIam.out _).mono ?_
      rintro e w6 ⟨rfl, hB⟩
      have k2 := below_then k1 (Nat.le_refl _) hB
      have y2 := Q4.below k2 dl
      clear hB
      refine hK.out _ _ ⟨k2, y2.1, y2.2.1⟩ (fun hHeld => ?_)
      clear hK K
      try simp only [Act.put, List.setIfInBounds_toArray, List.set_cons_zero, List.set_cons_succ]
      refine wpAnyH_ready (rs := [31]) (by kernel_rfl) (by simp) ?_
      refine AllReadyH.cons (o := { dst := some 96, op := Op.call { callee := Callee.value (Operand.func 32), args := #[Operand.tmp 93, Operand.tmp 94, Operand.tmp 95], argTypes := #[28, 3, 3] }, type := 3, pos := "laws.go:1656", after := #[{ on := 28, ground := Ground.data }, { on := 29, ground := Ground.data }, { on := 30, ground := Ground.data }, { on := 27, ground := Ground.chain }, { on := 22, ground := Ground.guard }], guard := some (22, true) }) rfl (fun K hK => ?_) AllReadyH.nil
      go_simp
      go_at_call 32
      refine (HImb.out _).mono ?_
      rintro e w7 ⟨rfl, hB⟩
      have k3 := below_then k2 (Nat.le_refl _) hB
      have y3 := Q4.below k3 dl
      clear hB
      refine hK.out _ _ ⟨k3, y3.1, y3.2.1⟩ (fun hHeld => ?_)
      clear hK K
      try simp only [Act.put, List.setIfInBounds_toArray, List.set_cons_zero, List.set_cons_succ]
      refine wpAnyH_take (i := 32) (oi := { dst := some 97, op := Op.binOp BinOp.add 3 (Operand.tmp 92) (Operand.tmp 96) 3, type := 3, pos := "laws.go:1656", after := #[{ on := 27, ground := Ground.data }, { on := 31, ground := Ground.data }, { on := 22, ground := Ground.guard }], guard := some (22, true) }) (v := ?v32) rfl (by kernel_rfl) (by kernel_rfl) (by kernel_rfl) (fun _ _ _ h => h) (Or.inl ⟨by rfl, ?hy32⟩) (by assumption) ?rest32
      case hy32 => (intro w hSw; (try dsimp only at hSw); go_simp; try with_reducible rfl)
      try simp only [Act.put, List.setIfInBounds_toArray, List.set_cons_zero, List.set_cons_succ]
      refine wpAnyH_take (i := 33) (oi := { dst := some 98, op := Op.binOp BinOp.leq 3 (Operand.tmp 88) (Operand.tmp 97) 3, type := 4, pos := "laws.go:1656", after := #[{ on := 23, ground := Ground.data }, { on := 32, ground := Ground.data }, { on := 22, ground := Ground.guard }], guard := some (22, true) }) (v := ?v33) rfl (by kernel_rfl) (by kernel_rfl) (by kernel_rfl) (fun _ _ _ h => h) (Or.inl ⟨by rfl, ?hy33⟩) (by assumption) ?rest33
      case hy33 => (intro w hSw; (try dsimp only at hSw); go_simp; try with_reducible rfl)
      try simp only [Act.put, List.setIfInBounds_toArray, List.set_cons_zero, List.set_cons_succ]
      refine wpAnyH_take (i := 34) (oi := { dst := some 99, op := Op.pick (Operand.tmp 87) (Operand.tmp 98) (Operand.const (Value.bool false)), type := 4, pos := "laws.go:1656", after := #[{ on := 22, ground := Ground.data }, { on := 33, ground := Ground.data }], guard := none }) (v := ?v34) rfl (by kernel_rfl) (by kernel_rfl) (by kernel_rfl) (fun _ _ _ h => h) (Or.inl ⟨by rfl, ?hy34⟩) (by assumption) ?rest34
      case hy34 => (intro w hSw; (try dsimp only at hSw); go_simp; try with_reducible rfl)
      try simp only [Act.put, List.setIfInBounds_toArray, List.set_cons_zero, List.set_cons_succ]
      refine wpAnyH_take (i := 35) (oi := { dst := some 100, op := Op.move (Operand.tmp 99), type := 4, pos := "laws.go:1656", after := #[{ on := 34, ground := Ground.data }, { on := 31, ground := Ground.chain }], guard := none }) (v := ?v35) rfl (by kernel_rfl) (by kernel_rfl) (by kernel_rfl) (fun _ _ _ h => h) (Or.inl ⟨by rfl, ?hy35⟩) (by assumption) ?rest35
      case hy35 => (intro w hSw; (try dsimp only at hSw); go_simp; try with_reducible rfl)
      try simp only [Act.put, List.setIfInBounds_toArray, List.set_cons_zero, List.set_cons_succ]
      refine wpAnyH_take (i := 36) (oi := { dst := some 101, op := Op.move (Operand.tmp 8), type := 3, pos := "laws.go:1656", after := #[{ on := 35, ground := Ground.guard }], guard := some (35, true) }) (v := ?v36) rfl (by kernel_rfl) (by kernel_rfl) (by kernel_rfl) (fun _ _ _ h => h) (Or.inl ⟨by rfl, ?hy36⟩) (by assumption) ?rest36
      case hy36 => (intro w hSw; (try dsimp only at hSw); go_simp; try with_reducible rfl)
      try simp only [Act.put, List.setIfInBounds_toArray, List.set_cons_zero, List.set_cons_succ]
      refine wpAnyH_take (i := 37) (oi := { dst := some 102, op := Op.binOp BinOp.eql 3 (Operand.tmp 101) (Operand.const (Value.int IntKind.i64 0)) 3, type := 4, pos := "laws.go:1656", after := #[{ on := 36, ground := Ground.data }, { on := 35, ground := Ground.guard }], guard := some (35, true) }) (v := ?v37) rfl (by kernel_rfl) (by kernel_rfl) (by kernel_rfl) (fun _ _ _ h => h) (Or.inl ⟨by rfl, ?hy37⟩) (by assumption) ?rest37
      case hy37 => (intro w hSw; (try dsimp only at hSw); go_simp; try with_reducible rfl)
      try simp only [Act.put, List.setIfInBounds_toArray, List.set_cons_zero, List.set_cons_succ]
      refine wpAnyH_take (i := 38) (oi := { dst := some 103, op := Op.move (Operand.tmp 6), type := 3, pos := "laws.go:1656", after := #[{ on := 35, ground := Ground.guard }], guard := some (35, true) }) (v := ?v38) rfl (by kernel_rfl) (by kernel_rfl) (by kernel_rfl) (fun _ _ _ h => h) (Or.inl ⟨by rfl, ?hy38⟩) (by assumption) ?rest38
      case hy38 => (intro w hSw; (try dsimp only at hSw); go_simp; try with_reducible rfl)
      try simp only [Act.put, List.setIfInBounds_toArray, List.set_cons_zero, List.set_cons_succ]
      refine wpAnyH_take (i := 39) (oi := { dst := some 104, op := Op.move (Operand.tmp 7), type := 3, pos := "laws.go:1656", after := #[{ on := 35, ground := Ground.guard }], guard := some (35, true) }) (v := ?v39) rfl (by kernel_rfl) (by kernel_rfl) (by kernel_rfl) (fun _ _ _ h => h) (Or.inl ⟨by rfl, ?hy39⟩) (by assumption) ?rest39
      case hy39 => (intro w hSw; (try dsimp only at hSw); go_simp; try with_reducible rfl)
      try simp only [Act.put, List.setIfInBounds_toArray, List.set_cons_zero, List.set_cons_succ]
      refine wpAnyH_take (i := 40) (oi := { dst := some 105, op := Op.binOp BinOp.eql 3 (Operand.tmp 103) (Operand.tmp 104) 3, type := 4, pos := "laws.go:1656", after := #[{ on := 38, ground := Ground.data }, { on := 39, ground := Ground.data }, { on := 35, ground := Ground.guard }], guard := some (35, true) }) (v := ?v40) rfl (by kernel_rfl) (by kernel_rfl) (by kernel_rfl) (fun _ _ _ h => h) (Or.inl ⟨by rfl, ?hy40⟩) (by assumption) ?rest40
      case hy40 => (intro w hSw; (try dsimp only at hSw); go_simp; try with_reducible rfl)
      try simp only [Act.put, List.setIfInBounds_toArray, List.set_cons_zero, List.set_cons_succ]
      refine wpAnyH_take (i := 41) (oi := { dst := some 106, op := Op.binOp BinOp.eql 4 (Operand.tmp 102) (Operand.tmp 105) 4, type := 4, pos := "laws.go:1656", after := #[{ on := 37, ground := Ground.data }, { on := 40, ground := Ground.data }, { on := 35, ground := Ground.guard }], guard := some (35, true) }) (v := ?v41) rfl (by kernel_rfl) (by kernel_rfl) (by kernel_rfl) (fun _ _ _ h => h) (Or.inl ⟨by rfl, ?hy41⟩) (by assumption) ?rest41
      case hy41 => (intro w hSw; (try dsimp only at hSw); go_simp; try with_reducible rfl)
      try simp only [Act.put, List.setIfInBounds_toArray, List.set_cons_zero, List.set_cons_succ]
      refine wpAnyH_take (i := 42) (oi := { dst := some 107, op := Op.pick (Operand.tmp 100) (Operand.tmp 106) (Operand.const (Value.bool false)), type := 4, pos := "laws.go:1656", after := #[{ on := 35, ground := Ground.data }, { on := 41, ground := Ground.data }], guard := none }) (v := ?v42) rfl (by kernel_rfl) (by kernel_rfl) (by kernel_rfl) (fun _ _ _ h => h) (Or.inl ⟨by rfl, ?hy42⟩) (by assumption) ?rest42
      case hy42 => (intro w hSw; (try dsimp only at hSw); go_simp; try with_reducible rfl)
      try simp only [Act.put, List.setIfInBounds_toArray, List.set_cons_zero, List.set_cons_succ]
      refine wpAnyH_take (i := 43) (oi := { dst := some 4, op := Op.assign (Operand.tmp 107), type := 4, pos := "laws.go:1656", after := #[{ on := 42, ground := Ground.data }, { on := 35, ground := Ground.chain }, { on := 0, ground := Ground.phase }, { on := 1, ground := Ground.phase }, { on := 2, ground := Ground.phase }, { on := 3, ground := Ground.phase }, { on := 4, ground := Ground.phase }, { on := 5, ground := Ground.phase }, { on := 6, ground := Ground.phase }, { on := 7, ground := Ground.phase }, { on := 8, ground := Ground.phase }, { on := 9, ground := Ground.phase }, { on := 10, ground := Ground.phase }, { on := 11, ground := Ground.phase }, { on := 12, ground := Ground.phase }, { on := 13, ground := Ground.phase }, { on := 14, ground := Ground.phase }, { on := 15, ground := Ground.phase }, { on := 16, ground := Ground.phase }, { on := 17, ground := Ground.phase }, { on := 18, ground := Ground.phase }, { on := 19, ground := Ground.phase }, { on := 20, ground := Ground.phase }, { on := 21, ground := Ground.phase }, { on := 22, ground := Ground.phase }, { on := 23, ground := Ground.phase }, { on := 24, ground := Ground.phase }, { on := 25, ground := Ground.phase }, { on := 26, ground := Ground.phase }, { on := 27, ground := Ground.phase }, { on := 28, ground := Ground.phase }, { on := 29, ground := Ground.phase }, { on := 30, ground := Ground.phase }, { on := 31, ground := Ground.phase }, { on := 32, ground := Ground.phase }, { on := 33, ground := Ground.phase }, { on := 34, ground := Ground.phase }, { on := 35, ground := Ground.phase }, { on := 36, ground := Ground.phase }, { on := 37, ground := Ground.phase }, { on := 38, ground := Ground.phase }, { on := 39, ground := Ground.phase }, { on := 40, ground := Ground.phase }, { on := 41, ground := Ground.phase }, { on := 42, ground := Ground.phase }], guard := none }) (v := ?v43) rfl (by kernel_rfl) (by kernel_rfl) (by kernel_rfl) (fun _ _ _ h => h) (Or.inl ⟨by rfl, ?hy43⟩) (by assumption) ?rest43
      case hy43 => (intro w hSw; (try dsimp only at hSw); go_simp; try with_reducible rfl)
      try simp only [Act.put, List.setIfInBounds_toArray, List.set_cons_zero, List.set_cons_succ]
      refine wpAnyH_done (by kernel_rfl) ?_ _
      have b9 := below_then b4 (Nat.le_refl _) k3
      rcases t3 with ⟨s1, s2⟩ | ⟨s1, s2⟩
      all_goals
        go_wp2
        go_ret
        exact ⟨ret_bool (by rw [s1, s2]; rfl), b9⟩
    · refine wp_region_held_drew (S := (fun wx => Below W4.heap.size W4 wx ∧ wx.cell? ⟨bx, 0, none⟩ = some (.string c) ∧ wx.cell? ⟨bx, 1, none⟩ = some (.int .i64 g))) (by kernel_rfl) ⟨r0.drew, d0, d1⟩ (fun hHeld => ?_)
      refine wpAnyH_take (i := 0) (oi := { dst := some 65, op := Op.load 28 (Operand.tmp 5), type := 28, pos := "laws.go:1656", after := #[], guard := none }) (v := ?v0b) rfl (by kernel_rfl) (by kernel_rfl) (by kernel_rfl) (fun _ _ _ h => h) (Or.inl ⟨by rfl, ?hy0b⟩) (by assumption) ?rest0b
      case hy0b => (intro w hSw; (try dsimp only at hSw); go_simp; try with_reducible rfl)
      try simp only [Act.put, List.setIfInBounds_toArray, List.set_cons_zero, List.set_cons_succ]
      refine wpAnyH_take (i := 1) (oi := { dst := some 66, op := Op.move (Operand.tmp 7), type := 3, pos := "laws.go:1656", after := #[], guard := none }) (v := ?v1b) rfl (by kernel_rfl) (by kernel_rfl) (by kernel_rfl) (fun _ _ _ h => h) (Or.inl ⟨by rfl, ?hy1b⟩) (by assumption) ?rest1b
      case hy1b => (intro w hSw; (try dsimp only at hSw); go_simp; try with_reducible rfl)
      try simp only [Act.put, List.setIfInBounds_toArray, List.set_cons_zero, List.set_cons_succ]
      refine wpAnyH_take (i := 2) (oi := { dst := some 67, op := Op.move (Operand.tmp 6), type := 3, pos := "laws.go:1656", after := #[], guard := none }) (v := ?v2b) rfl (by kernel_rfl) (by kernel_rfl) (by kernel_rfl) (fun _ _ _ h => h) (Or.inl ⟨by rfl, ?hy2b⟩) (by assumption) ?rest2b
      case hy2b => (intro w hSw; (try dsimp only at hSw); go_simp; try with_reducible rfl)
      try simp only [Act.put, List.setIfInBounds_toArray, List.set_cons_zero, List.set_cons_succ]
      refine wpAnyH_take (i := 4) (oi := { dst := some 69, op := Op.move (Operand.tmp 8), type := 3, pos := "laws.go:1656", after := #[], guard := none }) (v := ?v4b) rfl (by kernel_rfl) (by kernel_rfl) (by kernel_rfl) (fun _ _ _ h => h) (Or.inl ⟨by rfl, ?hy4b⟩) (by assumption) ?rest4b
      case hy4b => (intro w hSw; (try dsimp only at hSw); go_simp; try with_reducible rfl)
      try simp only [Act.put, List.setIfInBounds_toArray, List.set_cons_zero, List.set_cons_succ]
      refine wpAnyH_ready (rs := [3]) (by kernel_rfl) (by simp) ?_
      refine AllReadyH.cons (o := { dst := some 68, op := Op.call { callee := Callee.value (Operand.func 32), args := #[Operand.tmp 65, Operand.tmp 66, Operand.tmp 67], argTypes := #[28, 3, 3] }, type := 3, pos := "laws.go:1656", after := #[{ on := 0, ground := Ground.data }, { on := 1, ground := Ground.data }, { on := 2, ground := Ground.data }], guard := none }) rfl (fun K hK => ?_) AllReadyH.nil
      go_simp
      go_at_call 32
      refine (HIba.out _).mono ?_
      rintro e w5 ⟨rfl, hB⟩
      have k1 := below_then r0.drew (Nat.le_refl _) hB
      have y1 := Q4.below k1 dl
      clear hB
      refine hK.out _ _ ⟨k1, y1.1, y1.2.1⟩ (fun hHeld => ?_)
      clear hK K
      try simp only [Act.put, List.setIfInBounds_toArray, List.set_cons_zero, List.set_cons_succ]
      refine wpAnyH_take (i := 5) (oi := { dst := some 70, op := Op.binOp BinOp.eql 3 (Operand.tmp 68) (Operand.tmp 69) 3, type := 4, pos := "laws.go:1656", after := #[{ on := 3, ground := Ground.data }, { on := 4, ground := Ground.data }], guard := none }) (v := ?v5b) rfl (by kernel_rfl) (by kernel_rfl) (by kernel_rfl) (fun _ _ _ h => h) (Or.inl ⟨by rfl, ?hy5b⟩) (by assumption) ?rest5b
      case hy5b => (intro w hSw; (try dsimp only at hSw); go_simp; try with_reducible rfl)
      try simp only [Act.put, List.setIfInBounds_toArray, List.set_cons_zero, List.set_cons_succ]
      refine wpAnyH_take (i := 6) (oi := { dst := some 71, op := Op.move (Operand.tmp 70), type := 4, pos := "laws.go:1656", after := #[{ on := 5, ground := Ground.data }, { on := 3, ground := Ground.chain }], guard := none }) (v := ?v6b) rfl (by kernel_rfl) (by kernel_rfl) (by kernel_rfl) (fun _ _ _ h => h) (Or.inl ⟨by rfl, ?hy6b⟩) (by assumption) ?rest6b
      case hy6b => (intro w hSw; (try dsimp only at hSw); go_simp; try with_reducible rfl)
      try simp only [Act.put, List.setIfInBounds_toArray, List.set_cons_zero, List.set_cons_succ]
      refine wpAnyH_take (i := 7) (oi := { dst := some 72, op := Op.move (Operand.tmp 11), type := 3, pos := "laws.go:1656", after := #[{ on := 6, ground := Ground.guard }], guard := some (6, true) }) (v := ?v7b) rfl (by kernel_rfl) (by kernel_rfl) (by kernel_rfl) (fun _ _ _ h => h) (Or.inl ⟨by rfl, ?hy7b⟩) (by assumption) ?rest7b
      case hy7b => (intro w hSw; (try dsimp only at hSw); go_simp; try with_reducible rfl)
      try simp only [Act.put, List.setIfInBounds_toArray, List.set_cons_zero, List.set_cons_succ]
      refine wpAnyH_take (i := 8) (oi := { dst := some 73, op := Op.move (Operand.tmp 7), type := 3, pos := "laws.go:1656", after := #[{ on := 6, ground := Ground.guard }], guard := some (6, true) }) (v := ?v8b) rfl (by kernel_rfl) (by kernel_rfl) (by kernel_rfl) (fun _ _ _ h => h) (Or.inl ⟨by rfl, ?hy8b⟩) (by assumption) ?rest8b
      case hy8b => (intro w hSw; (try dsimp only at hSw); go_simp; try with_reducible rfl)
      try simp only [Act.put, List.setIfInBounds_toArray, List.set_cons_zero, List.set_cons_succ]
      refine wpAnyH_take (i := 9) (oi := { dst := some 74, op := Op.binOp BinOp.eql 3 (Operand.tmp 72) (Operand.tmp 73) 3, type := 4, pos := "laws.go:1656", after := #[{ on := 7, ground := Ground.data }, { on := 8, ground := Ground.data }, { on := 6, ground := Ground.guard }], guard := some (6, true) }) (v := ?v9b) rfl (by kernel_rfl) (by kernel_rfl) (by kernel_rfl) (fun _ _ _ h => h) (Or.inl ⟨by rfl, ?hy9b⟩) (by assumption) ?rest9b
      case hy9b => (intro w hSw; (try dsimp only at hSw); go_simp; try with_reducible rfl)
      try simp only [Act.put, List.setIfInBounds_toArray, List.set_cons_zero, List.set_cons_succ]
      refine wpAnyH_take (i := 10) (oi := { dst := some 75, op := Op.move (Operand.tmp 74), type := 4, pos := "laws.go:1656", after := #[{ on := 9, ground := Ground.data }, { on := 6, ground := Ground.chain }, { on := 6, ground := Ground.guard }], guard := some (6, true) }) (v := ?v10b) rfl (by kernel_rfl) (by kernel_rfl) (by kernel_rfl) (fun _ _ _ h => h) (Or.inl ⟨by rfl, ?hy10b⟩) (by assumption) ?rest10b
      case hy10b => (intro w hSw; (try dsimp only at hSw); go_simp; try with_reducible rfl)
      try simp only [Act.put, List.setIfInBounds_toArray, List.set_cons_zero, List.set_cons_succ]
      refine wpAnyH_take (i := 11) (oi := { dst := some 76, op := Op.move (Operand.tmp 12), type := 3, pos := "laws.go:1656", after := #[{ on := 10, ground := Ground.guard }], guard := some (10, false) }) (v := ?v11b) rfl (by kernel_rfl) (by kernel_rfl) (by kernel_rfl) (fun _ _ _ h => h) (Or.inl ⟨by rfl, ?hy11b⟩) (by assumption) ?rest11b
      case hy11b => (intro w hSw; (try dsimp only at hSw); go_simp; try with_reducible rfl)
      try simp only [Act.put, List.setIfInBounds_toArray, List.set_cons_zero, List.set_cons_succ]
      refine wpAnyH_take (i := 12) (oi := { dst := some 77, op := Op.move (Operand.tmp 7), type := 3, pos := "laws.go:1656", after := #[{ on := 10, ground := Ground.guard }], guard := some (10, false) }) (v := ?v12b) rfl (by kernel_rfl) (by kernel_rfl) (by kernel_rfl) (fun _ _ _ h => h) (Or.inl ⟨by rfl, ?hy12b⟩) (by assumption) ?rest12b
      case hy12b => (intro w hSw; (try dsimp only at hSw); go_simp; try with_reducible rfl)
      try simp only [Act.put, List.setIfInBounds_toArray, List.set_cons_zero, List.set_cons_succ]
      refine wpAnyH_take (i := 13) (oi := { dst := some 78, op := Op.binOp BinOp.eql 3 (Operand.tmp 76) (Operand.tmp 77) 3, type := 4, pos := "laws.go:1656", after := #[{ on := 11, ground := Ground.data }, { on := 12, ground := Ground.data }, { on := 10, ground := Ground.guard }], guard := some (10, false) }) (v := ?v13b) rfl (by kernel_rfl) (by kernel_rfl) (by kernel_rfl) (fun _ _ _ h => h) (Or.inl ⟨by rfl, ?hy13b⟩) (by assumption) ?rest13b
      case hy13b => (intro w hSw; (try dsimp only at hSw); go_simp; try with_reducible rfl)
      try simp only [Act.put, List.setIfInBounds_toArray, List.set_cons_zero, List.set_cons_succ]
      refine wpAnyH_take (i := 14) (oi := { dst := some 79, op := Op.pick (Operand.tmp 75) (Operand.const (Value.bool true)) (Operand.tmp 78), type := 4, pos := "laws.go:1656", after := #[{ on := 10, ground := Ground.data }, { on := 13, ground := Ground.data }, { on := 6, ground := Ground.guard }], guard := some (6, true) }) (v := ?v14b) rfl (by kernel_rfl) (by kernel_rfl) (by kernel_rfl) (fun _ _ _ h => h) (Or.inl ⟨by rfl, ?hy14b⟩) (by assumption) ?rest14b
      case hy14b => (intro w hSw; (try dsimp only at hSw); go_simp; try with_reducible rfl)
      try simp only [Act.put, List.setIfInBounds_toArray, List.set_cons_zero, List.set_cons_succ]
      refine wpAnyH_take (i := 15) (oi := { dst := some 80, op := Op.pick (Operand.tmp 71) (Operand.tmp 79) (Operand.const (Value.bool false)), type := 4, pos := "laws.go:1656", after := #[{ on := 6, ground := Ground.data }, { on := 14, ground := Ground.data }], guard := none }) (v := ?v15b) rfl (by kernel_rfl) (by kernel_rfl) (by kernel_rfl) (fun _ _ _ h => h) (Or.inl ⟨by rfl, ?hy15b⟩) (by assumption) ?rest15b
      case hy15b => (intro w hSw; (try dsimp only at hSw); go_simp; try with_reducible rfl)
      try simp only [Act.put, List.setIfInBounds_toArray, List.set_cons_zero, List.set_cons_succ]
      refine wpAnyH_take (i := 16) (oi := { dst := some 81, op := Op.move (Operand.tmp 80), type := 4, pos := "laws.go:1656", after := #[{ on := 15, ground := Ground.data }, { on := 10, ground := Ground.chain }], guard := none }) (v := ?v16b) rfl (by kernel_rfl) (by kernel_rfl) (by kernel_rfl) (fun _ _ _ h => h) (Or.inl ⟨by rfl, ?hy16b⟩) (by assumption) ?rest16b
      case hy16b => (intro w hSw; (try dsimp only at hSw); go_simp; try with_reducible rfl)
      try simp only [Act.put, List.setIfInBounds_toArray, List.set_cons_zero, List.set_cons_succ]
      refine wpAnyH_take (i := 17) (oi := { dst := some 82, op := Op.move (Operand.tmp 8), type := 3, pos := "laws.go:1656", after := #[{ on := 16, ground := Ground.guard }], guard := some (16, true) }) (v := ?v17b) rfl (by kernel_rfl) (by kernel_rfl) (by kernel_rfl) (fun _ _ _ h => h) (Or.inl ⟨by rfl, ?hy17b⟩) (by assumption) ?rest17b
      case hy17b => (intro w hSw; (try dsimp only at hSw); go_simp; try with_reducible rfl)
      try simp only [Act.put, List.setIfInBounds_toArray, List.set_cons_zero, List.set_cons_succ]
      refine wpAnyH_take (i := 18) (oi := { dst := some 83, op := Op.binOp BinOp.mul 3 (Operand.const (Value.int IntKind.i64 2)) (Operand.tmp 82) 3, type := 3, pos := "laws.go:1656", after := #[{ on := 17, ground := Ground.data }, { on := 16, ground := Ground.guard }], guard := some (16, true) }) (v := ?v18b) rfl (by kernel_rfl) (by kernel_rfl) (by kernel_rfl) (fun _ _ _ h => h) (Or.inl ⟨by rfl, ?hy18b⟩) (by assumption) ?rest18b
      case hy18b => (intro w hSw; (try dsimp only at hSw); go_simp; try with_reducible rfl)
      try simp only [Act.put, List.setIfInBounds_toArray, List.set_cons_zero, List.set_cons_succ]
      refine wpAnyH_take (i := 19) (oi := { dst := some 84, op := Op.move (Operand.tmp 9), type := 3, pos := "laws.go:1656", after := #[{ on := 16, ground := Ground.guard }], guard := some (16, true) }) (v := ?v19b) rfl (by kernel_rfl) (by kernel_rfl) (by kernel_rfl) (fun _ _ _ h => h) (Or.inl ⟨by rfl, ?hy19b⟩) (by assumption) ?rest19b
      case hy19b => (intro w hSw; (try dsimp only at hSw); go_simp; try with_reducible rfl)
      try simp only [Act.put, List.setIfInBounds_toArray, List.set_cons_zero, List.set_cons_succ]
      refine wpAnyH_take (i := 20) (oi := { dst := some 85, op := Op.binOp BinOp.leq 3 (Operand.tmp 83) (Operand.tmp 84) 3, type := 4, pos := "laws.go:1656", after := #[{ on := 18, ground := Ground.data }, { on := 19, ground := Ground.data }, { on := 16, ground := Ground.guard }], guard := some (16, true) }) (v := ?v20b) rfl (by kernel_rfl) (by kernel_rfl) (by kernel_rfl) (fun _ _ _ h => h) (Or.inl ⟨by rfl, ?hy20b⟩) (by assumption) ?rest20b
      case hy20b => (intro w hSw; (try dsimp only at hSw); go_simp; try with_reducible rfl)
      try simp only [Act.put, List.setIfInBounds_toArray, List.set_cons_zero, List.set_cons_succ]
      refine wpAnyH_take (i := 21) (oi := { dst := some 86, op := Op.pick (Operand.tmp 81) (Operand.tmp 85) (Operand.const (Value.bool false)), type := 4, pos := "laws.go:1656", after := #[{ on := 16, ground := Ground.data }, { on := 20, ground := Ground.data }], guard := none }) (v := ?v21b) rfl (by kernel_rfl) (by kernel_rfl) (by kernel_rfl) (fun _ _ _ h => h) (Or.inl ⟨by rfl, ?hy21b⟩) (by assumption) ?rest21b
      case hy21b => (intro w hSw; (try dsimp only at hSw); go_simp; try with_reducible rfl)
      try simp only [Act.put, List.setIfInBounds_toArray, List.set_cons_zero, List.set_cons_succ]
      refine wpAnyH_take (i := 22) (oi := { dst := some 87, op := Op.move (Operand.tmp 86), type := 4, pos := "laws.go:1656", after := #[{ on := 21, ground := Ground.data }, { on := 16, ground := Ground.chain }], guard := none }) (v := ?v22b) rfl (by kernel_rfl) (by kernel_rfl) (by kernel_rfl) (fun _ _ _ h => h) (Or.inl ⟨by rfl, ?hy22b⟩) (by assumption) ?rest22b
      case hy22b => (intro w hSw; (try dsimp only at hSw); go_simp; try with_reducible rfl)
      try simp only [Act.put, List.setIfInBounds_toArray, List.set_cons_zero, List.set_cons_succ]
      refine wpAnyH_take (i := 23) (oi := { dst := some 88, op := Op.move (Operand.tmp 8), type := 3, pos := "laws.go:1656", after := #[{ on := 22, ground := Ground.guard }], guard := some (22, true) }) (v := ?v23b) rfl (by kernel_rfl) (by kernel_rfl) (by kernel_rfl) (fun _ _ _ h => h) (Or.inl ⟨by rfl, ?hy23b⟩) (by assumption) ?rest23b
      case hy23b => (intro w hSw; (try dsimp only at hSw); go_simp; try with_reducible rfl)
      try simp only [Act.put, List.setIfInBounds_toArray, List.set_cons_zero, List.set_cons_succ]
      refine wpAnyH_take (i := 24) (oi := { dst := some 89, op := Op.load 28 (Operand.tmp 5), type := 28, pos := "laws.go:1656", after := #[{ on := 22, ground := Ground.guard }], guard := some (22, true) }) (v := ?v24b) rfl (by kernel_rfl) (by kernel_rfl) (by kernel_rfl) (fun _ _ _ h => h) (Or.inl ⟨by rfl, ?hy24b⟩) (by assumption) ?rest24b
      case hy24b => (intro w hSw; (try dsimp only at hSw); go_simp; try with_reducible rfl)
      try simp only [Act.put, List.setIfInBounds_toArray, List.set_cons_zero, List.set_cons_succ]
      refine wpAnyH_take (i := 25) (oi := { dst := some 90, op := Op.move (Operand.tmp 6), type := 3, pos := "laws.go:1656", after := #[{ on := 22, ground := Ground.guard }], guard := some (22, true) }) (v := ?v25b) rfl (by kernel_rfl) (by kernel_rfl) (by kernel_rfl) (fun _ _ _ h => h) (Or.inl ⟨by rfl, ?hy25b⟩) (by assumption) ?rest25b
      case hy25b => (intro w hSw; (try dsimp only at hSw); go_simp; try with_reducible rfl)
      try simp only [Act.put, List.setIfInBounds_toArray, List.set_cons_zero, List.set_cons_succ]
      refine wpAnyH_take (i := 26) (oi := { dst := some 91, op := Op.move (Operand.tmp 10), type := 3, pos := "laws.go:1656", after := #[{ on := 22, ground := Ground.guard }], guard := some (22, true) }) (v := ?v26b) rfl (by kernel_rfl) (by kernel_rfl) (by kernel_rfl) (fun _ _ _ h => h) (Or.inl ⟨by rfl, ?hy26b⟩) (by assumption) ?rest26b
      case hy26b => (intro w hSw; (try dsimp only at hSw); go_simp; try with_reducible rfl)
      try simp only [Act.put, List.setIfInBounds_toArray, List.set_cons_zero, List.set_cons_succ]
      refine wpAnyH_take (i := 28) (oi := { dst := some 93, op := Op.load 28 (Operand.tmp 5), type := 28, pos := "laws.go:1656", after := #[{ on := 22, ground := Ground.guard }], guard := some (22, true) }) (v := ?v28b) rfl (by kernel_rfl) (by kernel_rfl) (by kernel_rfl) (fun _ _ _ h => h) (Or.inl ⟨by rfl, ?hy28b⟩) (by assumption) ?rest28b
      case hy28b => (intro w hSw; (try dsimp only at hSw); go_simp; try with_reducible rfl)
      try simp only [Act.put, List.setIfInBounds_toArray, List.set_cons_zero, List.set_cons_succ]
      refine wpAnyH_take (i := 29) (oi := { dst := some 94, op := Op.move (Operand.tmp 10), type := 3, pos := "laws.go:1656", after := #[{ on := 22, ground := Ground.guard }], guard := some (22, true) }) (v := ?v29b) rfl (by kernel_rfl) (by kernel_rfl) (by kernel_rfl) (fun _ _ _ h => h) (Or.inl ⟨by rfl, ?hy29b⟩) (by assumption) ?rest29b
      case hy29b => (intro w hSw; (try dsimp only at hSw); go_simp; try with_reducible rfl)
      try simp only [Act.put, List.setIfInBounds_toArray, List.set_cons_zero, List.set_cons_succ]
      refine wpAnyH_take (i := 30) (oi := { dst := some 95, op := Op.move (Operand.tmp 7), type := 3, pos := "laws.go:1656", after := #[{ on := 22, ground := Ground.guard }], guard := some (22, true) }) (v := ?v30b) rfl (by kernel_rfl) (by kernel_rfl) (by kernel_rfl) (fun _ _ _ h => h) (Or.inl ⟨by rfl, ?hy30b⟩) (by assumption) ?rest30b
      case hy30b => (intro w hSw; (try dsimp only at hSw); go_simp; try with_reducible rfl)
      try simp only [Act.put, List.setIfInBounds_toArray, List.set_cons_zero, List.set_cons_succ]
      refine wpAnyH_ready (rs := [27]) (by kernel_rfl) (by simp) ?_
      refine AllReadyH.cons (o := { dst := some 92, op := Op.call { callee := Callee.value (Operand.func 32), args := #[Operand.tmp 89, Operand.tmp 90, Operand.tmp 91], argTypes := #[28, 3, 3] }, type := 3, pos := "laws.go:1656", after := #[{ on := 24, ground := Ground.data }, { on := 25, ground := Ground.data }, { on := 26, ground := Ground.data }, { on := 22, ground := Ground.chain }, { on := 22, ground := Ground.guard }], guard := some (22, true) }) rfl (fun K hK => ?_) AllReadyH.nil
      go_simp
      go_at_call 32
      refine (HIam.out _).mono ?_
      rintro e w6 ⟨rfl, hB⟩
      have k2 := below_then k1 (Nat.le_refl _) hB
      have y2 := Q4.below k2 dl
      clear hB
      refine hK.out _ _ ⟨k2, y2.1, y2.2.1⟩ (fun hHeld => ?_)
      clear hK K
      try simp only [Act.put, List.setIfInBounds_toArray, List.set_cons_zero, List.set_cons_succ]
      refine wpAnyH_ready (rs := [31]) (by kernel_rfl) (by simp) ?_
      refine AllReadyH.cons (o := { dst := some 96, op := Op.call { callee := Callee.value (Operand.func 32), args := #[Operand.tmp 93, Operand.tmp 94, Operand.tmp 95], argTypes := #[28, 3, 3] }, type := 3, pos := "laws.go:1656", after := #[{ on := 28, ground := Ground.data }, { on := 29, ground := Ground.data }, { on := 30, ground := Ground.data }, { on := 27, ground := Ground.chain }, { on := 22, ground := Ground.guard }], guard := some (22, true) }) rfl (fun K hK => ?_) AllReadyH.nil
      go_simp
      go_at_call 32
      refine (HImb.out _).mono ?_
      rintro e w7 ⟨rfl, hB⟩
      have k3 := below_then k2 (Nat.le_refl _) hB
      have y3 := Q4.below k3 dl
      clear hB
      refine hK.out _ _ ⟨k3, y3.1, y3.2.1⟩ (fun hHeld => ?_)
      clear hK K
      try simp only [Act.put, List.setIfInBounds_toArray, List.set_cons_zero, List.set_cons_succ]
      refine wpAnyH_take (i := 32) (oi := { dst := some 97, op := Op.binOp BinOp.add 3 (Operand.tmp 92) (Operand.tmp 96) 3, type := 3, pos := "laws.go:1656", after := #[{ on := 27, ground := Ground.data }, { on := 31, ground := Ground.data }, { on := 22, ground := Ground.guard }], guard := some (22, true) }) (v := ?v32b) rfl (by kernel_rfl) (by kernel_rfl) (by kernel_rfl) (fun _ _ _ h => h) (Or.inl ⟨by rfl, ?hy32b⟩) (by assumption) ?rest32b
      case hy32b => (intro w hSw; (try dsimp only at hSw); go_simp; try with_reducible rfl)
      try simp only [Act.put, List.setIfInBounds_toArray, List.set_cons_zero, List.set_cons_succ]
      refine wpAnyH_take (i := 33) (oi := { dst := some 98, op := Op.binOp BinOp.leq 3 (Operand.tmp 88) (Operand.tmp 97) 3, type := 4, pos := "laws.go:1656", after := #[{ on := 23, ground := Ground.data }, { on := 32, ground := Ground.data }, { on := 22, ground := Ground.guard }], guard := some (22, true) }) (v := ?v33b) rfl (by kernel_rfl) (by kernel_rfl) (by kernel_rfl) (fun _ _ _ h => h) (Or.inl ⟨by rfl, ?hy33b⟩) (by assumption) ?rest33b
      case hy33b => (intro w hSw; (try dsimp only at hSw); go_simp; try with_reducible rfl)
      try simp only [Act.put, List.setIfInBounds_toArray, List.set_cons_zero, List.set_cons_succ]
      refine wpAnyH_take (i := 34) (oi := { dst := some 99, op := Op.pick (Operand.tmp 87) (Operand.tmp 98) (Operand.const (Value.bool false)), type := 4, pos := "laws.go:1656", after := #[{ on := 22, ground := Ground.data }, { on := 33, ground := Ground.data }], guard := none }) (v := ?v34b) rfl (by kernel_rfl) (by kernel_rfl) (by kernel_rfl) (fun _ _ _ h => h) (Or.inl ⟨by rfl, ?hy34b⟩) (by assumption) ?rest34b
      case hy34b => (intro w hSw; (try dsimp only at hSw); go_simp; try with_reducible rfl)
      try simp only [Act.put, List.setIfInBounds_toArray, List.set_cons_zero, List.set_cons_succ]
      refine wpAnyH_take (i := 35) (oi := { dst := some 100, op := Op.move (Operand.tmp 99), type := 4, pos := "laws.go:1656", after := #[{ on := 34, ground := Ground.data }, { on := 31, ground := Ground.chain }], guard := none }) (v := ?v35b) rfl (by kernel_rfl) (by kernel_rfl) (by kernel_rfl) (fun _ _ _ h => h) (Or.inl ⟨by rfl, ?hy35b⟩) (by assumption) ?rest35b
      case hy35b => (intro w hSw; (try dsimp only at hSw); go_simp; try with_reducible rfl)
      try simp only [Act.put, List.setIfInBounds_toArray, List.set_cons_zero, List.set_cons_succ]
      refine wpAnyH_take (i := 36) (oi := { dst := some 101, op := Op.move (Operand.tmp 8), type := 3, pos := "laws.go:1656", after := #[{ on := 35, ground := Ground.guard }], guard := some (35, true) }) (v := ?v36b) rfl (by kernel_rfl) (by kernel_rfl) (by kernel_rfl) (fun _ _ _ h => h) (Or.inl ⟨by rfl, ?hy36b⟩) (by assumption) ?rest36b
      case hy36b => (intro w hSw; (try dsimp only at hSw); go_simp; try with_reducible rfl)
      try simp only [Act.put, List.setIfInBounds_toArray, List.set_cons_zero, List.set_cons_succ]
      refine wpAnyH_take (i := 37) (oi := { dst := some 102, op := Op.binOp BinOp.eql 3 (Operand.tmp 101) (Operand.const (Value.int IntKind.i64 0)) 3, type := 4, pos := "laws.go:1656", after := #[{ on := 36, ground := Ground.data }, { on := 35, ground := Ground.guard }], guard := some (35, true) }) (v := ?v37b) rfl (by kernel_rfl) (by kernel_rfl) (by kernel_rfl) (fun _ _ _ h => h) (Or.inl ⟨by rfl, ?hy37b⟩) (by assumption) ?rest37b
      case hy37b => (intro w hSw; (try dsimp only at hSw); go_simp; try with_reducible rfl)
      try simp only [Act.put, List.setIfInBounds_toArray, List.set_cons_zero, List.set_cons_succ]
      refine wpAnyH_take (i := 38) (oi := { dst := some 103, op := Op.move (Operand.tmp 6), type := 3, pos := "laws.go:1656", after := #[{ on := 35, ground := Ground.guard }], guard := some (35, true) }) (v := ?v38b) rfl (by kernel_rfl) (by kernel_rfl) (by kernel_rfl) (fun _ _ _ h => h) (Or.inl ⟨by rfl, ?hy38b⟩) (by assumption) ?rest38b
      case hy38b => (intro w hSw; (try dsimp only at hSw); go_simp; try with_reducible rfl)
      try simp only [Act.put, List.setIfInBounds_toArray, List.set_cons_zero, List.set_cons_succ]
      refine wpAnyH_take (i := 39) (oi := { dst := some 104, op := Op.move (Operand.tmp 7), type := 3, pos := "laws.go:1656", after := #[{ on := 35, ground := Ground.guard }], guard := some (35, true) }) (v := ?v39b) rfl (by kernel_rfl) (by kernel_rfl) (by kernel_rfl) (fun _ _ _ h => h) (Or.inl ⟨by rfl, ?hy39b⟩) (by assumption) ?rest39b
      case hy39b => (intro w hSw; (try dsimp only at hSw); go_simp; try with_reducible rfl)
      try simp only [Act.put, List.setIfInBounds_toArray, List.set_cons_zero, List.set_cons_succ]
      refine wpAnyH_take (i := 40) (oi := { dst := some 105, op := Op.binOp BinOp.eql 3 (Operand.tmp 103) (Operand.tmp 104) 3, type := 4, pos := "laws.go:1656", after := #[{ on := 38, ground := Ground.data }, { on := 39, ground := Ground.data }, { on := 35, ground := Ground.guard }], guard := some (35, true) }) (v := ?v40b) rfl (by kernel_rfl) (by kernel_rfl) (by kernel_rfl) (fun _ _ _ h => h) (Or.inl ⟨by rfl, ?hy40b⟩) (by assumption) ?rest40b
      case hy40b => (intro w hSw; (try dsimp only at hSw); go_simp; try with_reducible rfl)
      try simp only [Act.put, List.setIfInBounds_toArray, List.set_cons_zero, List.set_cons_succ]
      refine wpAnyH_take (i := 41) (oi := { dst := some 106, op := Op.binOp BinOp.eql 4 (Operand.tmp 102) (Operand.tmp 105) 4, type := 4, pos := "laws.go:1656", after := #[{ on := 37, ground := Ground.data }, { on := 40, ground := Ground.data }, { on := 35, ground := Ground.guard }], guard := some (35, true) }) (v := ?v41b) rfl (by kernel_rfl) (by kernel_rfl) (by kernel_rfl) (fun _ _ _ h => h) (Or.inl ⟨by rfl, ?hy41b⟩) (by assumption) ?rest41b
      case hy41b => (intro w hSw; (try dsimp only at hSw); go_simp; try with_reducible rfl)
      try simp only [Act.put, List.setIfInBounds_toArray, List.set_cons_zero, List.set_cons_succ]
      refine wpAnyH_take (i := 42) (oi := { dst := some 107, op := Op.pick (Operand.tmp 100) (Operand.tmp 106) (Operand.const (Value.bool false)), type := 4, pos := "laws.go:1656", after := #[{ on := 35, ground := Ground.data }, { on := 41, ground := Ground.data }], guard := none }) (v := ?v42b) rfl (by kernel_rfl) (by kernel_rfl) (by kernel_rfl) (fun _ _ _ h => h) (Or.inl ⟨by rfl, ?hy42b⟩) (by assumption) ?rest42b
      case hy42b => (intro w hSw; (try dsimp only at hSw); go_simp; try with_reducible rfl)
      try simp only [Act.put, List.setIfInBounds_toArray, List.set_cons_zero, List.set_cons_succ]
      refine wpAnyH_take (i := 43) (oi := { dst := some 4, op := Op.assign (Operand.tmp 107), type := 4, pos := "laws.go:1656", after := #[{ on := 42, ground := Ground.data }, { on := 35, ground := Ground.chain }, { on := 0, ground := Ground.phase }, { on := 1, ground := Ground.phase }, { on := 2, ground := Ground.phase }, { on := 3, ground := Ground.phase }, { on := 4, ground := Ground.phase }, { on := 5, ground := Ground.phase }, { on := 6, ground := Ground.phase }, { on := 7, ground := Ground.phase }, { on := 8, ground := Ground.phase }, { on := 9, ground := Ground.phase }, { on := 10, ground := Ground.phase }, { on := 11, ground := Ground.phase }, { on := 12, ground := Ground.phase }, { on := 13, ground := Ground.phase }, { on := 14, ground := Ground.phase }, { on := 15, ground := Ground.phase }, { on := 16, ground := Ground.phase }, { on := 17, ground := Ground.phase }, { on := 18, ground := Ground.phase }, { on := 19, ground := Ground.phase }, { on := 20, ground := Ground.phase }, { on := 21, ground := Ground.phase }, { on := 22, ground := Ground.phase }, { on := 23, ground := Ground.phase }, { on := 24, ground := Ground.phase }, { on := 25, ground := Ground.phase }, { on := 26, ground := Ground.phase }, { on := 27, ground := Ground.phase }, { on := 28, ground := Ground.phase }, { on := 29, ground := Ground.phase }, { on := 30, ground := Ground.phase }, { on := 31, ground := Ground.phase }, { on := 32, ground := Ground.phase }, { on := 33, ground := Ground.phase }, { on := 34, ground := Ground.phase }, { on := 35, ground := Ground.phase }, { on := 36, ground := Ground.phase }, { on := 37, ground := Ground.phase }, { on := 38, ground := Ground.phase }, { on := 39, ground := Ground.phase }, { on := 40, ground := Ground.phase }, { on := 41, ground := Ground.phase }, { on := 42, ground := Ground.phase }], guard := none }) (v := ?v43b) rfl (by kernel_rfl) (by kernel_rfl) (by kernel_rfl) (fun _ _ _ h => h) (Or.inl ⟨by rfl, ?hy43b⟩) (by assumption) ?rest43b
      case hy43b => (intro w hSw; (try dsimp only at hSw); go_simp; try with_reducible rfl)
      try simp only [Act.put, List.setIfInBounds_toArray, List.set_cons_zero, List.set_cons_succ]
      refine wpAnyH_done (by kernel_rfl) ?_ _
      have b9 := below_then b4 (Nat.le_refl _) k3
      rcases t3 with ⟨s1, s2⟩ | ⟨s1, s2⟩
      all_goals
        go_wp2
        go_ret
        exact ⟨ret_bool (by rw [s1, s2]; rfl), b9⟩
  · have hI2 := fun w => hI x y w
    have hS2 := fun w => hS x y w
    rw [ds_no hv] at hI2 hS2
    have HI := Lib.hid hI2
    have HS := Lib.hid hS2
    clear hI hS hI2 hS2 hv bc hg hx hy
    obtain ⟨d0, d1, dl⟩ := id Q1
    go_wp2_with fail
    refine (HI.out _).mono ?_
    rintro e W2 ⟨rfl, h2⟩
    have b2 := below_then b1 (Nat.le_refl _) h2
    have Q2 := Q1.below h2 (by simp)
    clear b1 Q1 h2 d0 d1 dl
    obtain ⟨d0, d1, dl⟩ := id Q2
    go_wp2_with fail
    refine (HS.out _).mono ?_
    rintro e W3 ⟨rfl, h3⟩
    have b3 := below_then b2 (Nat.le_refl _) h3
    have Q3 := Q2.below h3 Q2.2.2
    clear b2 Q2 h3 d0 d1 dl
    obtain ⟨d0, d1, dl⟩ := id Q3
    go_wp2_with fail
    refine (HS.out _).mono ?_
    rintro e W4 ⟨rfl, h4⟩
    have b4 := below_then b3 (Nat.le_refl _) h4
    clear b3 Q3 h4 d0 d1 dl
    go_wp2
    go_ret
    exact ⟨rfl, b4⟩
end Go.Proofs.Ytpcogmpnmkmoeab
