/- The walks of the laws StepBack and Jump. -/
import Derived.Test.YtnpaigpdbjadlaaDraw3
import Derived.Test.YtnpaigpdbjadlaaRegJump
namespace Go.Proofs.Ytnpaigpdbjadlaa
open Go.RowKit
set_option maxHeartbeats 1600000 in
theorem fnStepBack_walk (a0 : Option Addr) (len0 cap0 : Nat) (z0 : List Int) (w : World) (w0 : IsBytes w a0 len0 cap0 z0) :
    Calls Try.prog 10 #[.slice a0 len0 cap0] w fun e w' => e = .returned (.bool true) ∧ Below w.heap.size w w' := by
  by_cases hl : 1048576 < len0
  · go_enter Try.func10, Try.ntmps10
    go_wp2
    go_ret
    exact ⟨rfl, Below.refl _ _⟩
  · go_enter Try.func10, Try.ntmps10
    go_wp2_with fail
    refine (drawBack_any a0 len0 cap0 z0 _ w0).mono ?_
    rintro e W1 ⟨S, T, X, rfl, fS, fT, fX, b1⟩
    clear w0 fS fT fX
    have hs := fun w => sBack_any S T X w
    have hi := fun w => iBack_any S T X w
    cases hreg : regB S T X with
    | false =>
      have he : backAns S T X = noReg := by simp [backAns, hreg]
      rw [he] at hs hi
      unfold RegAns.val noReg at *
      have HS := Lib.hid hs
      have HI := Lib.hid hi
      have HG := Lib.hid hreg
      clear hs hi he hreg
      go_wp2_with fail
      have rA := RegAt.new W1 24 S T X
      have bA := b1.alloc b1.size (.cells #[.int .i64 S, .int .i64 T, .int .i64 X] 24)
      refine (HI.out _).mono ?_
      rintro e W2 ⟨rfl, hb2⟩
      have b2 := below_then bA (Nat.le_refl _) hb2
      have rA2 := rA.below hb2 (by simp)
      clear hb2 rA bA b1
      obtain ⟨c0, c1, c2, cl⟩ := id rA2
      go_wp2_with fail
      clear c0 c1 c2 cl
      have rX := RegAt.new W2 24 0 0 0
      have bX := b2.alloc b2.size (.cells #[.int .i64 0, .int .i64 0, .int .i64 0] 24)
      have rA2' := rA2.kept (World.grownBy_alloc W2 (.cells #[.int .i64 0, .int .i64 0, .int .i64 0] 24) none) (by simp)
      refine (HS.out _).mono ?_
      rintro e W3' ⟨rfl, hb3⟩
      have b3' := below_then bX (Nat.le_refl _) hb3
      have rA3' := rA2'.below hb3 rA2'.2.2.2
      have rX3' := rX.below hb3 rX.2.2.2
      clear hb3 rA2 rX bX b2 rA2'
      obtain ⟨c0, c1, c2, cl⟩ := id rA3'
      obtain ⟨d0, d1, d2, dl⟩ := id rX3'
      have b3 := b3'.alloc b3'.size (.cells #[.int .i64 0, .int .i64 0, .int .i64 0] 24)
      have rA3 := rA3'.kept (World.grownBy_alloc W3' (.cells #[.int .i64 0, .int .i64 0, .int .i64 0] 24) none) (by simp)
      have rX3 := rX3'.kept (World.grownBy_alloc W3' (.cells #[.int .i64 0, .int .i64 0, .int .i64 0] 24) none) (by simp)
      have rY3 := RegAt.new W3' 24 0 0 0
      go_wp2_with fail
      clear c0 c1 c2 cl d0 d1 d2 dl
      refine (iRegisterValid_no S T X _ HG.out).mono ?_
      rintro e W4 ⟨rfl, hb4⟩
      have b4 := below_then b3 (Nat.le_refl _) hb4
      have rA4 := rA3.below hb4 rA3.2.2.2
      have rX4 := rX3.below hb4 rX3.2.2.2
      have rY4 := rY3.below hb4 rY3.2.2.2
      clear hb4 b3 rA3 rX3 rY3
      obtain ⟨c0, c1, c2, cl⟩ := id rA4
      obtain ⟨d0, d1, d2, dl⟩ := id rX4
      obtain ⟨e0, e1, e2, el⟩ := id rY4
      go_wp2_with fail
      clear c0 c1 c2 cl d0 d1 d2 dl e0 e1 e2 el
      refine (iRegisterValid_no S T X _ HG.out).mono ?_
      rintro e W5 ⟨rfl, hb5⟩
      have b5 := below_then b4 (Nat.le_refl _) hb5
      have rA5 := rA4.below hb5 rA4.2.2.2
      have rX5 := rX4.below hb5 rX4.2.2.2
      have rY5 := rY4.below hb5 rY4.2.2.2
      clear hb5 b4 rA4 rX4 rY4
      obtain ⟨c0, c1, c2, cl⟩ := id rA5
      obtain ⟨d0, d1, d2, dl⟩ := id rX5
      obtain ⟨e0, e1, e2, el⟩ := id rY5
      go_wp2
      go_ret
      exact ⟨rfl, b5⟩
    | true =>
      obtain ⟨s, t, x, rfl, rfl, rfl, hr⟩ := RegN.of hreg
      by_cases ho : t % 2 = 1
      · have he : backAns s t x = ⟨s, t, (backN s t x : Nat), true⟩ := by simp [backAns, hreg, ho]
        obtain ⟨y, hy⟩ : ∃ y, backN s t x = y := ⟨_, rfl⟩
        obtain ⟨z, hz⟩ : ∃ z, stepN s t x = z := ⟨_, rfl⟩
        have hry := hr.back
        have hrz := hr.step
        rw [hy] at he hry
        rw [hz] at hrz
        have hs1 := step_back s t x hr ho
        have hs2 := back_step s t x hr ho
        rw [hy] at hs1
        rw [hz] at hs2
        have k1 : stepAns s t y = ⟨s, t, x, true⟩ := by simp [stepAns, hry.valid, hs1]
        have k2 : stepAns s t x = ⟨s, t, z, true⟩ := by simp [stepAns, hreg, hz]
        have k3 : backAns s t z = ⟨s, t, x, true⟩ := by simp [backAns, hrz.valid, ho, hs2]
        have hc1 := fun w => iStep_any s t y w
        have hc2 := fun w => iStep_any s t x w
        have hc3 := fun w => iBack_any s t z w
        have ht0 : ((t : Int) % 2 == 1) = true := by simp; omega
        rw [he] at hs hi
        rw [k1] at hc1
        rw [k2] at hc2
        rw [k3] at hc3
        unfold RegAns.val at *
        have HS := Lib.hid hs
        have HI := Lib.hid hi
        have C1 := Lib.hid hc1
        have C2 := Lib.hid hc2
        have C3 := Lib.hid hc3
        clear hs hi he hreg ho hy hz hs1 hs2 k1 k2 k3 hc1 hc2 hc3 hry hrz
        go_wp2_with fail
        have rA := RegAt.new W1 24 s t x
        have bA := b1.alloc b1.size (.cells #[.int .i64 (s : Int), .int .i64 (t : Int), .int .i64 (x : Int)] 24)
        refine (HI.out _).mono ?_
        rintro e W2 ⟨rfl, hb2⟩
        have b2 := below_then bA (Nat.le_refl _) hb2
        have rA2 := rA.below hb2 (by simp)
        clear hb2 rA bA b1
        obtain ⟨c0, c1, c2, cl⟩ := id rA2
        go_wp2_with fail
        clear c0 c1 c2 cl
        have rX := RegAt.new W2 24 (s : Int) (t : Int) (y : Int)
        have bX := b2.alloc b2.size (.cells #[.int .i64 (s : Int), .int .i64 (t : Int), .int .i64 (y : Int)] 24)
        have rA2' := rA2.kept (World.grownBy_alloc W2 (.cells #[.int .i64 (s : Int), .int .i64 (t : Int), .int .i64 (y : Int)] 24) none) (by simp)
        refine (HS.out _).mono ?_
        rintro e W3' ⟨rfl, hb3⟩
        have b3' := below_then bX (Nat.le_refl _) hb3
        have rA3' := rA2'.below hb3 rA2'.2.2.2
        have rX3' := rX.below hb3 rX.2.2.2
        clear hb3 rA2 rX bX b2 rA2'
        obtain ⟨c0, c1, c2, cl⟩ := id rA3'
        obtain ⟨d0, d1, d2, dl⟩ := id rX3'
        have b3 := b3'.alloc b3'.size (.cells #[.int .i64 (s : Int), .int .i64 (t : Int), .int .i64 (y : Int)] 24)
        have rA3 := rA3'.kept (World.grownBy_alloc W3' (.cells #[.int .i64 (s : Int), .int .i64 (t : Int), .int .i64 (y : Int)] 24) none) (by simp)
        have rX3 := rX3'.kept (World.grownBy_alloc W3' (.cells #[.int .i64 (s : Int), .int .i64 (t : Int), .int .i64 (y : Int)] 24) none) (by simp)
        have rY3 := RegAt.new W3' 24 (s : Int) (t : Int) (y : Int)
        go_wp2_with fail
        clear c0 c1 c2 cl d0 d1 d2 dl
        refine (iRegisterValid_yes s t x _ hr).mono ?_
        rintro e W4 ⟨rfl, hb4⟩
        have b4 := below_then b3 (Nat.le_refl _) hb4
        have rA4 := rA3.below hb4 rA3.2.2.2
        have rX4 := rX3.below hb4 rX3.2.2.2
        have rY4 := rY3.below hb4 rY3.2.2.2
        clear hb4 b3 rA3 rX3 rY3
        obtain ⟨c0, c1, c2, cl⟩ := id rA4
        obtain ⟨d0, d1, d2, dl⟩ := id rX4
        obtain ⟨e0, e1, e2, el⟩ := id rY4
        go_wp2_with fail
        clear c0 c1 c2 cl d0 d1 d2 dl e0 e1 e2 el
        refine (C1.out _).mono ?_
        rintro e W5 ⟨rfl, hb5⟩
        have b5 := below_then b4 (Nat.le_refl _) hb5
        have rA5 := rA4.below hb5 rA4.2.2.2
        obtain ⟨c0, c1, c2, cl⟩ := id rA5
        go_wp2_with fail
        clear c0 c1 c2 cl
        have b5x := b5.alloc b5.size (.cells #[.int .i64 (s : Int), .int .i64 (t : Int), .int .i64 (x : Int)] 24)
        have rF5x := RegAt.new W5 24 s t x
        have rA5x := rA5.kept (World.grownBy_alloc W5 (.cells #[.int .i64 (s : Int), .int .i64 (t : Int), .int .i64 (x : Int)] 24) none) (by simp)
        have hb5' := b5x
        refine (C2.out _).mono ?_
        rintro e W6 ⟨rfl, hb6⟩
        have b6 := below_then b5x (Nat.le_refl _) hb6
        have rA6 := rA5x.below hb6 rA5x.2.2.2
        have rF6 := rF5x.below hb6 rF5x.2.2.2
        clear hb6 b5x hb5' rA5x rF5x b5 rA5 hb5 rA4 rX4 rY4 b4
        go_wp2_with fail
        have b6x := b6.alloc b6.size (.cells #[.int .i64 (s : Int), .int .i64 (t : Int), .int .i64 (z : Int)] 24)
        have rN6x := RegAt.new W6 24 s t z
        have rA6x := rA6.kept (World.grownBy_alloc W6 (.cells #[.int .i64 (s : Int), .int .i64 (t : Int), .int .i64 (z : Int)] 24) none) (by simp)
        have rF6x := rF6.kept (World.grownBy_alloc W6 (.cells #[.int .i64 (s : Int), .int .i64 (t : Int), .int .i64 (z : Int)] 24) none) (by simp)
        refine (C3.out _).mono ?_
        rintro e W7 ⟨rfl, hb7⟩
        have b7 := below_then b6x (Nat.le_refl _) hb7
        obtain ⟨c0, c1, c2, cl⟩ := rA6x.below hb7 rA6x.2.2.2
        obtain ⟨d0, d1, d2, dl⟩ := rF6x.below hb7 rF6x.2.2.2
        clear hb7 b6x rA6x rF6x rN6x b6 rA6 rF6
        have b8 := b7.alloc b7.size (.cells #[.int .i64 (s : Int), .int .i64 (t : Int), .int .i64 (x : Int)] 24)
        go_wp2
        go_ret
        exact ⟨rfl, b8⟩
      · have he : backAns s t x = noReg := by simp [backAns, ho]
        have ht0 : ((t : Int) % 2 == 1) = false := by simp; omega
        rw [he] at hs hi
        unfold RegAns.val noReg at *
        have HS := Lib.hid hs
        have HI := Lib.hid hi
        clear hs hi he hreg ho
        go_wp2_with fail
        have rA := RegAt.new W1 24 s t x
        have bA := b1.alloc b1.size (.cells #[.int .i64 (s : Int), .int .i64 (t : Int), .int .i64 (x : Int)] 24)
        refine (HI.out _).mono ?_
        rintro e W2 ⟨rfl, hb2⟩
        have b2 := below_then bA (Nat.le_refl _) hb2
        have rA2 := rA.below hb2 (by simp)
        clear hb2 rA bA b1
        obtain ⟨c0, c1, c2, cl⟩ := id rA2
        go_wp2_with fail
        clear c0 c1 c2 cl
        have rX := RegAt.new W2 24 0 0 0
        have bX := b2.alloc b2.size (.cells #[.int .i64 0, .int .i64 0, .int .i64 0] 24)
        have rA2' := rA2.kept (World.grownBy_alloc W2 (.cells #[.int .i64 0, .int .i64 0, .int .i64 0] 24) none) (by simp)
        refine (HS.out _).mono ?_
        rintro e W3' ⟨rfl, hb3⟩
        have b3' := below_then bX (Nat.le_refl _) hb3
        have rA3' := rA2'.below hb3 rA2'.2.2.2
        have rX3' := rX.below hb3 rX.2.2.2
        clear hb3 rA2 rX bX b2 rA2'
        obtain ⟨c0, c1, c2, cl⟩ := id rA3'
        obtain ⟨d0, d1, d2, dl⟩ := id rX3'
        have b3 := b3'.alloc b3'.size (.cells #[.int .i64 0, .int .i64 0, .int .i64 0] 24)
        have rA3 := rA3'.kept (World.grownBy_alloc W3' (.cells #[.int .i64 0, .int .i64 0, .int .i64 0] 24) none) (by simp)
        have rX3 := rX3'.kept (World.grownBy_alloc W3' (.cells #[.int .i64 0, .int .i64 0, .int .i64 0] 24) none) (by simp)
        have rY3 := RegAt.new W3' 24 0 0 0
        go_wp2_with fail
        clear c0 c1 c2 cl d0 d1 d2 dl
        refine (iRegisterValid_yes s t x _ hr).mono ?_
        rintro e W4 ⟨rfl, hb4⟩
        have b4 := below_then b3 (Nat.le_refl _) hb4
        have rA4 := rA3.below hb4 rA3.2.2.2
        have rX4 := rX3.below hb4 rX3.2.2.2
        have rY4 := rY3.below hb4 rY3.2.2.2
        clear hb4 b3 rA3 rX3 rY3
        obtain ⟨c0, c1, c2, cl⟩ := id rA4
        obtain ⟨d0, d1, d2, dl⟩ := id rX4
        obtain ⟨e0, e1, e2, el⟩ := id rY4
        go_wp2_with fail
        clear c0 c1 c2 cl d0 d1 d2 dl e0 e1 e2 el
        refine (iRegisterValid_yes s t x _ hr).mono ?_
        rintro e W5 ⟨rfl, hb5⟩
        have b5 := below_then b4 (Nat.le_refl _) hb5
        have rA5 := rA4.below hb5 rA4.2.2.2
        have rX5 := rX4.below hb5 rX4.2.2.2
        have rY5 := rY4.below hb5 rY4.2.2.2
        clear hb5 b4 rA4 rX4 rY4
        obtain ⟨c0, c1, c2, cl⟩ := id rA5
        obtain ⟨d0, d1, d2, dl⟩ := id rX5
        obtain ⟨e0, e1, e2, el⟩ := id rY5
        go_wp2
        go_ret
        exact ⟨rfl, b5⟩
end Go.Proofs.Ytnpaigpdbjadlaa
