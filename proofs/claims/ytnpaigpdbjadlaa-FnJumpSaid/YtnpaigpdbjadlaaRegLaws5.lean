/- The walk of the law Jump. -/
import Derived.Test.YtnpaigpdbjadlaaDraw4
import Derived.Test.YtnpaigpdbjadlaaRegJump
import Derived.Test.YtnpaigpdbjadlaaJumpMath
namespace Go.Proofs.Ytnpaigpdbjadlaa
open Go.RowKit
set_option maxHeartbeats 6400000 in
theorem fnJump_walk (a0 : Option Addr) (len0 cap0 : Nat) (z0 : List Int) (a1 : Option Addr) (len1 cap1 : Nat) (z1 : List Int) (w : World) (w0 : IsBytes w a0 len0 cap0 z0) (_ : IsBytes w a1 len1 cap1 z1) :
    Calls Try.prog 11 #[.slice a0 len0 cap0, .slice a1 len1 cap1] w fun e w' => e = .returned (.bool true) ∧ Below w.heap.size w w' := by
  by_cases hl : 1048576 < len0
  · go_enter Try.func11, Try.ntmps11
    go_wp2
    go_ret
    exact ⟨rfl, Below.refl _ _⟩
  · by_cases hl1 : 1048576 < len1
    · go_enter Try.func11, Try.ntmps11
      go_wp2
      go_ret
      exact ⟨rfl, Below.refl _ _⟩
    · obtain ⟨m, hm⟩ : ∃ m, len1 % 60 = m := ⟨_, rfl⟩
      have hm60 : m < 60 := by omega
      have hme : (len1 : Int) % 60 = (m : Int) := by omega
      clear hm
      have HM := Lib.hid hme
      clear hme
      go_enter Try.func11, Try.ntmps11
      go_wp2_with fail
      refine (drawJump_any a0 len0 cap0 z0 _ w0).mono ?_
      rintro e W1 ⟨S, T, X, K, rfl, _, _, _, _, b1⟩
      clear w0
      have hs := fun w => sJump_any S T X K w
      have hi := fun w => iJump_any S T X K w
      cases hok : regB S T X && jumpB T.toNat K with
      | false =>
        have he : jumpAns S T X K = noReg := by simp [jumpAns, hok]
        rw [he] at hs hi
        unfold RegAns.val noReg at *
        have HS := Lib.hid hs
        have HI := Lib.hid hi
        clear hs hi he hok
        go_wp2_with fail
        have b1x := b1.alloc b1.size (.cells #[.int .i64 S, .int .i64 T, .int .i64 X] 24)
        have rA1x := RegAt.new W1 24 S T X
        refine (HI.out _).mono ?_
        rintro e W2 ⟨rfl, hb2⟩
        have b2 := below_then b1x (Nat.le_refl _) hb2
        have rA2 := rA1x.below hb2 rA1x.2.2.2
        clear hb2 b1 b1x rA1x
        obtain ⟨c0, c1, c2, cl⟩ := id rA2
        go_wp2_with fail
        clear c0 c1 c2 cl
        have b2x := b2.alloc b2.size (.cells #[.int .i64 0, .int .i64 0, .int .i64 0] 24)
        have rX2x := RegAt.new W2 24 0 0 0
        have rA2x := rA2.kept (World.grownBy_alloc W2 (.cells #[.int .i64 0, .int .i64 0, .int .i64 0] 24) none) (by simp)
        refine (HS.out _).mono ?_
        rintro e W3 ⟨rfl, hb3⟩
        have b3 := below_then b2x (Nat.le_refl _) hb3
        have rA3 := rA2x.below hb3 rA2x.2.2.2
        have rX3 := rX2x.below hb3 rX2x.2.2.2
        clear hb3 b2 b2x rA2x rX2x rA2
        obtain ⟨c0, c1, c2, cl⟩ := id rA3
        obtain ⟨d0, d1, d2, dl⟩ := id rX3
        have b4 := b3.alloc b3.size (.cells #[.int .i64 0, .int .i64 0, .int .i64 0] 24)
        go_wp2
        go_ret
        exact ⟨rfl, b4⟩
      | true =>
        have hok' := hok
        rw [Bool.and_eq_true] at hok'
        obtain ⟨hreg, hj⟩ := hok'
        obtain ⟨s, t, x, rfl, rfl, rfl, hr⟩ := RegN.of hreg
        simp only [Int.toNat_natCast] at hj
        have hkk : -5000 ≤ K ∧ K ≤ 5000 ∧ (0 ≤ K ∨ t % 2 = 1) := by
          simp only [jumpB, Bool.and_eq_true, Bool.or_eq_true, decide_eq_true_eq] at hj; omega
        obtain ⟨hk1, hk2, hk3⟩ := hkk
        obtain ⟨j, hjn⟩ : ∃ j, jumpN s t K x = j := ⟨_, rfl⟩
        obtain ⟨y, hy⟩ : ∃ y, stepsN s t m j = y := ⟨_, rfl⟩
        have hrj := hr.jump K
        rw [hjn] at hrj
        have hadd := jump_add hr K m hk3
        rw [hjn, hy] at hadd
        have he : jumpAns s t x K = ⟨s, t, j, true⟩ := by simp [jumpAns, hreg, hj, hjn]
        have k1 : jumpAns s t j m = ⟨s, t, y, true⟩ := by
          have : jumpB t m = true := by simp only [jumpB, Bool.and_eq_true, Bool.or_eq_true, decide_eq_true_eq]; omega
          simp [jumpAns, hrj.valid, this, jumpN, hy]
        have hc1 := fun w => iJump_any s t j m w
        have hc2 := fun w => iJump_any s t x (K + m) w
        have hc3 := fun w => iJump_any s t j (-K) w
        rw [he] at hs hi
        rw [k1] at hc1
        have HME := HM.out
        by_cases hK0 : K ≤ 0
        · have k3 : jumpAns s t j (-K) = ⟨s, t, x, true⟩ := by
            have h1 : jumpB t (-K) = true := by simp only [jumpB, Bool.and_eq_true, Bool.or_eq_true, decide_eq_true_eq]; omega
            have h2 : jumpN s t (-K) j = x := by
              by_cases ho : t % 2 = 1
              · rw [← hjn]; exact jump_neg hr K ho
              · have : K = 0 := by omega
                subst this
                rw [← hjn]; rfl
            simp [jumpAns, hrj.valid, h1, h2]
          by_cases hkm : K + (m : Int) ≤ 5000
          · have k2 : jumpAns s t x (K + m) = ⟨s, t, y, true⟩ := by
              have h1 : jumpB t (K + m) = true := by simp only [jumpB, Bool.and_eq_true, Bool.or_eq_true, decide_eq_true_eq]; omega
              simp [jumpAns, hreg, h1, ← hadd]
            rw [k2] at hc2
            rw [k3] at hc3
            unfold RegAns.val at *
            have HS := Lib.hid hs
            have HI := Lib.hid hi
            have C1 := Lib.hid hc1
            have C2 := Lib.hid hc2
            have C3 := Lib.hid hc3
            clear hs hi hc1 hc2 hc3 k1 k2 k3 he hok hreg hj hrj hadd hjn hy hr hk3
            go_wp2_with fail
            have b1x := b1.alloc b1.size (.cells #[.int .i64 (s : Int), .int .i64 (t : Int), .int .i64 (x : Int)] 24)
            have rA1x := RegAt.new W1 24 (s : Int) (t : Int) (x : Int)
            refine (HI.out _).mono ?_
            rintro e W2 ⟨rfl, hb2⟩
            have b2 := below_then b1x (Nat.le_refl _) hb2
            have rA2 := rA1x.below hb2 rA1x.2.2.2
            clear hb2 b1 b1x rA1x
            obtain ⟨c0, c1, c2, cl⟩ := id rA2
            go_wp2_with fail
            clear c0 c1 c2 cl
            have b2x := b2.alloc b2.size (.cells #[.int .i64 (s : Int), .int .i64 (t : Int), .int .i64 (j : Int)] 24)
            have rX2x := RegAt.new W2 24 (s : Int) (t : Int) (j : Int)
            have rA2x := rA2.kept (World.grownBy_alloc W2 (.cells #[.int .i64 (s : Int), .int .i64 (t : Int), .int .i64 (j : Int)] 24) none) (by simp)
            refine (HS.out _).mono ?_
            rintro e W3 ⟨rfl, hb3⟩
            have b3 := below_then b2x (Nat.le_refl _) hb3
            have rA3 := rA2x.below hb3 rA2x.2.2.2
            have rX3 := rX2x.below hb3 rX2x.2.2.2
            clear hb3 b2 b2x rA2x rX2x rA2
            obtain ⟨c0, c1, c2, cl⟩ := id rA3
            obtain ⟨d0, d1, d2, dl⟩ := id rX3
            have b3x := b3.alloc b3.size (.cells #[.int .i64 (s : Int), .int .i64 (t : Int), .int .i64 (j : Int)] 24)
            have rV3x := RegAt.new W3 24 (s : Int) (t : Int) (j : Int)
            have rA3x := rA3.kept (World.grownBy_alloc W3 (.cells #[.int .i64 (s : Int), .int .i64 (t : Int), .int .i64 (j : Int)] 24) none) (by simp)
            have rX3x := rX3.kept (World.grownBy_alloc W3 (.cells #[.int .i64 (s : Int), .int .i64 (t : Int), .int .i64 (j : Int)] 24) none) (by simp)
            go_wp2_with fail
            clear c0 c1 c2 cl d0 d1 d2 dl
            refine (C1.out _).mono ?_
            rintro e W4 ⟨rfl, hb4⟩
            have b4 := below_then b3x (Nat.le_refl _) hb4
            have rA4 := rA3x.below hb4 rA3x.2.2.2
            have rX4 := rX3x.below hb4 rX3x.2.2.2
            have rV4 := rV3x.below hb4 rV3x.2.2.2
            clear hb4 b3 b3x rA3x rX3x rV3x rA3 rX3
            obtain ⟨c0, c1, c2, cl⟩ := id rA4
            go_wp2_with fail
            clear c0 c1 c2 cl
            have b4x := b4.alloc b4.size (.cells #[.int .i64 (s : Int), .int .i64 (t : Int), .int .i64 (y : Int)] 24)
            have rY4x := RegAt.new W4 24 (s : Int) (t : Int) (y : Int)
            have rA4x := rA4.kept (World.grownBy_alloc W4 (.cells #[.int .i64 (s : Int), .int .i64 (t : Int), .int .i64 (y : Int)] 24) none) (by simp)
            have rX4x := rX4.kept (World.grownBy_alloc W4 (.cells #[.int .i64 (s : Int), .int .i64 (t : Int), .int .i64 (y : Int)] 24) none) (by simp)
            refine (C2.out _).mono ?_
            rintro e W5 ⟨rfl, hb5⟩
            have b5 := below_then b4x (Nat.le_refl _) hb5
            have rA5 := rA4x.below hb5 rA4x.2.2.2
            have rX5 := rX4x.below hb5 rX4x.2.2.2
            have rY5 := rY4x.below hb5 rY4x.2.2.2
            clear hb5 b4 b4x rA4x rX4x rY4x rA4 rX4
            obtain ⟨c0, c1, c2, cl⟩ := id rX5
            go_wp2_with fail
            clear c0 c1 c2 cl
            have b5x := b5.alloc b5.size (.cells #[.int .i64 (s : Int), .int .i64 (t : Int), .int .i64 (y : Int)] 24)
            have rL5x := RegAt.new W5 24 (s : Int) (t : Int) (y : Int)
            have rA5x := rA5.kept (World.grownBy_alloc W5 (.cells #[.int .i64 (s : Int), .int .i64 (t : Int), .int .i64 (y : Int)] 24) none) (by simp)
            have rX5x := rX5.kept (World.grownBy_alloc W5 (.cells #[.int .i64 (s : Int), .int .i64 (t : Int), .int .i64 (y : Int)] 24) none) (by simp)
            have rY5x := rY5.kept (World.grownBy_alloc W5 (.cells #[.int .i64 (s : Int), .int .i64 (t : Int), .int .i64 (y : Int)] 24) none) (by simp)
            refine (C3.out _).mono ?_
            rintro e W6 ⟨rfl, hb6⟩
            have b6 := below_then b5x (Nat.le_refl _) hb6
            have rA6 := rA5x.below hb6 rA5x.2.2.2
            have rY6 := rY5x.below hb6 rY5x.2.2.2
            have rL6 := rL5x.below hb6 rL5x.2.2.2
            clear hb6 b5 b5x rA5x rY5x rL5x rA5 rY5
            obtain ⟨c0, c1, c2, cl⟩ := id rA6
            obtain ⟨d0, d1, d2, dl⟩ := id rY6
            obtain ⟨f0, f1, f2, fl⟩ := id rL6
            have b7 := b6.alloc b6.size (.cells #[.int .i64 (s : Int), .int .i64 (t : Int), .int .i64 (x : Int)] 24)
            go_wp2
            go_ret
            exact ⟨rfl, b7⟩
          · exfalso; omega
        · have hK1 : 0 < K := by omega
          by_cases ho : t % 2 = 1
          · have k3 : jumpAns s t j (-K) = ⟨s, t, x, true⟩ := by
              have h1 : jumpB t (-K) = true := by simp only [jumpB, Bool.and_eq_true, Bool.or_eq_true, decide_eq_true_eq]; omega
              have h2 : jumpN s t (-K) j = x := by rw [← hjn]; exact jump_neg hr K ho
              simp [jumpAns, hrj.valid, h1, h2]
            have ht1 : ((t : Int) % 2 == 1) = true := by simp; omega
            by_cases hkm : K + (m : Int) ≤ 5000
            · have k2 : jumpAns s t x (K + m) = ⟨s, t, y, true⟩ := by
                have h1 : jumpB t (K + m) = true := by simp only [jumpB, Bool.and_eq_true, Bool.or_eq_true, decide_eq_true_eq]; omega
                simp [jumpAns, hreg, h1, ← hadd]
              rw [k2] at hc2
              rw [k3] at hc3
              unfold RegAns.val at *
              have HS := Lib.hid hs
              have HI := Lib.hid hi
              have C1 := Lib.hid hc1
              have C2 := Lib.hid hc2
              have C3 := Lib.hid hc3
              clear hs hi hc1 hc2 hc3 k1 k2 k3 he hok hreg hj hrj hadd hjn hy hr hk3
              clear ho
              go_wp2_with fail
              have b1x := b1.alloc b1.size (.cells #[.int .i64 (s : Int), .int .i64 (t : Int), .int .i64 (x : Int)] 24)
              have rA1x := RegAt.new W1 24 (s : Int) (t : Int) (x : Int)
              refine (HI.out _).mono ?_
              rintro e W2 ⟨rfl, hb2⟩
              have b2 := below_then b1x (Nat.le_refl _) hb2
              have rA2 := rA1x.below hb2 rA1x.2.2.2
              clear hb2 b1 b1x rA1x
              obtain ⟨c0, c1, c2, cl⟩ := id rA2
              go_wp2_with fail
              clear c0 c1 c2 cl
              have b2x := b2.alloc b2.size (.cells #[.int .i64 (s : Int), .int .i64 (t : Int), .int .i64 (j : Int)] 24)
              have rX2x := RegAt.new W2 24 (s : Int) (t : Int) (j : Int)
              have rA2x := rA2.kept (World.grownBy_alloc W2 (.cells #[.int .i64 (s : Int), .int .i64 (t : Int), .int .i64 (j : Int)] 24) none) (by simp)
              refine (HS.out _).mono ?_
              rintro e W3 ⟨rfl, hb3⟩
              have b3 := below_then b2x (Nat.le_refl _) hb3
              have rA3 := rA2x.below hb3 rA2x.2.2.2
              have rX3 := rX2x.below hb3 rX2x.2.2.2
              clear hb3 b2 b2x rA2x rX2x rA2
              obtain ⟨c0, c1, c2, cl⟩ := id rA3
              obtain ⟨d0, d1, d2, dl⟩ := id rX3
              have b3x := b3.alloc b3.size (.cells #[.int .i64 (s : Int), .int .i64 (t : Int), .int .i64 (j : Int)] 24)
              have rV3x := RegAt.new W3 24 (s : Int) (t : Int) (j : Int)
              have rA3x := rA3.kept (World.grownBy_alloc W3 (.cells #[.int .i64 (s : Int), .int .i64 (t : Int), .int .i64 (j : Int)] 24) none) (by simp)
              have rX3x := rX3.kept (World.grownBy_alloc W3 (.cells #[.int .i64 (s : Int), .int .i64 (t : Int), .int .i64 (j : Int)] 24) none) (by simp)
              go_wp2_with fail
              clear c0 c1 c2 cl d0 d1 d2 dl
              refine (C1.out _).mono ?_
              rintro e W4 ⟨rfl, hb4⟩
              have b4 := below_then b3x (Nat.le_refl _) hb4
              have rA4 := rA3x.below hb4 rA3x.2.2.2
              have rX4 := rX3x.below hb4 rX3x.2.2.2
              have rV4 := rV3x.below hb4 rV3x.2.2.2
              clear hb4 b3 b3x rA3x rX3x rV3x rA3 rX3
              obtain ⟨c0, c1, c2, cl⟩ := id rA4
              go_wp2_with fail
              clear c0 c1 c2 cl
              have b4x := b4.alloc b4.size (.cells #[.int .i64 (s : Int), .int .i64 (t : Int), .int .i64 (y : Int)] 24)
              have rY4x := RegAt.new W4 24 (s : Int) (t : Int) (y : Int)
              have rA4x := rA4.kept (World.grownBy_alloc W4 (.cells #[.int .i64 (s : Int), .int .i64 (t : Int), .int .i64 (y : Int)] 24) none) (by simp)
              have rX4x := rX4.kept (World.grownBy_alloc W4 (.cells #[.int .i64 (s : Int), .int .i64 (t : Int), .int .i64 (y : Int)] 24) none) (by simp)
              refine (C2.out _).mono ?_
              rintro e W5 ⟨rfl, hb5⟩
              have b5 := below_then b4x (Nat.le_refl _) hb5
              have rA5 := rA4x.below hb5 rA4x.2.2.2
              have rX5 := rX4x.below hb5 rX4x.2.2.2
              have rY5 := rY4x.below hb5 rY4x.2.2.2
              clear hb5 b4 b4x rA4x rX4x rY4x rA4 rX4
              obtain ⟨c0, c1, c2, cl⟩ := id rX5
              go_wp2_with fail
              clear c0 c1 c2 cl
              have b5x := b5.alloc b5.size (.cells #[.int .i64 (s : Int), .int .i64 (t : Int), .int .i64 (y : Int)] 24)
              have rL5x := RegAt.new W5 24 (s : Int) (t : Int) (y : Int)
              have rA5x := rA5.kept (World.grownBy_alloc W5 (.cells #[.int .i64 (s : Int), .int .i64 (t : Int), .int .i64 (y : Int)] 24) none) (by simp)
              have rX5x := rX5.kept (World.grownBy_alloc W5 (.cells #[.int .i64 (s : Int), .int .i64 (t : Int), .int .i64 (y : Int)] 24) none) (by simp)
              have rY5x := rY5.kept (World.grownBy_alloc W5 (.cells #[.int .i64 (s : Int), .int .i64 (t : Int), .int .i64 (y : Int)] 24) none) (by simp)
              refine (C3.out _).mono ?_
              rintro e W6 ⟨rfl, hb6⟩
              have b6 := below_then b5x (Nat.le_refl _) hb6
              have rA6 := rA5x.below hb6 rA5x.2.2.2
              have rY6 := rY5x.below hb6 rY5x.2.2.2
              have rL6 := rL5x.below hb6 rL5x.2.2.2
              clear hb6 b5 b5x rA5x rY5x rL5x rA5 rY5
              obtain ⟨c0, c1, c2, cl⟩ := id rA6
              obtain ⟨d0, d1, d2, dl⟩ := id rY6
              obtain ⟨f0, f1, f2, fl⟩ := id rL6
              have b7 := b6.alloc b6.size (.cells #[.int .i64 (s : Int), .int .i64 (t : Int), .int .i64 (x : Int)] 24)
              go_wp2
              go_ret
              exact ⟨rfl, b7⟩
            · have k2 : jumpAns s t x (K + m) = noReg := by
                have h1 : jumpB t (K + m) = false := by
                  cases h1 : jumpB t (K + m) with
                  | false => rfl
                  | true => simp only [jumpB, Bool.and_eq_true, Bool.or_eq_true, decide_eq_true_eq] at h1; omega
                simp [jumpAns, h1]
              rw [k2] at hc2
              rw [k3] at hc3
              unfold RegAns.val noReg at *
              have HS := Lib.hid hs
              have HI := Lib.hid hi
              have C1 := Lib.hid hc1
              have C2 := Lib.hid hc2
              have C3 := Lib.hid hc3
              clear hs hi hc1 hc2 hc3 k1 k2 k3 he hok hreg hj hrj hadd hjn hy hr hk3
              clear ho
              go_wp2_with fail
              have b1x := b1.alloc b1.size (.cells #[.int .i64 (s : Int), .int .i64 (t : Int), .int .i64 (x : Int)] 24)
              have rA1x := RegAt.new W1 24 (s : Int) (t : Int) (x : Int)
              refine (HI.out _).mono ?_
              rintro e W2 ⟨rfl, hb2⟩
              have b2 := below_then b1x (Nat.le_refl _) hb2
              have rA2 := rA1x.below hb2 rA1x.2.2.2
              clear hb2 b1 b1x rA1x
              obtain ⟨c0, c1, c2, cl⟩ := id rA2
              go_wp2_with fail
              clear c0 c1 c2 cl
              have b2x := b2.alloc b2.size (.cells #[.int .i64 (s : Int), .int .i64 (t : Int), .int .i64 (j : Int)] 24)
              have rX2x := RegAt.new W2 24 (s : Int) (t : Int) (j : Int)
              have rA2x := rA2.kept (World.grownBy_alloc W2 (.cells #[.int .i64 (s : Int), .int .i64 (t : Int), .int .i64 (j : Int)] 24) none) (by simp)
              refine (HS.out _).mono ?_
              rintro e W3 ⟨rfl, hb3⟩
              have b3 := below_then b2x (Nat.le_refl _) hb3
              have rA3 := rA2x.below hb3 rA2x.2.2.2
              have rX3 := rX2x.below hb3 rX2x.2.2.2
              clear hb3 b2 b2x rA2x rX2x rA2
              obtain ⟨c0, c1, c2, cl⟩ := id rA3
              obtain ⟨d0, d1, d2, dl⟩ := id rX3
              have b3x := b3.alloc b3.size (.cells #[.int .i64 (s : Int), .int .i64 (t : Int), .int .i64 (j : Int)] 24)
              have rV3x := RegAt.new W3 24 (s : Int) (t : Int) (j : Int)
              have rA3x := rA3.kept (World.grownBy_alloc W3 (.cells #[.int .i64 (s : Int), .int .i64 (t : Int), .int .i64 (j : Int)] 24) none) (by simp)
              have rX3x := rX3.kept (World.grownBy_alloc W3 (.cells #[.int .i64 (s : Int), .int .i64 (t : Int), .int .i64 (j : Int)] 24) none) (by simp)
              go_wp2_with fail
              clear c0 c1 c2 cl d0 d1 d2 dl
              refine (C1.out _).mono ?_
              rintro e W4 ⟨rfl, hb4⟩
              have b4 := below_then b3x (Nat.le_refl _) hb4
              have rA4 := rA3x.below hb4 rA3x.2.2.2
              have rX4 := rX3x.below hb4 rX3x.2.2.2
              have rV4 := rV3x.below hb4 rV3x.2.2.2
              clear hb4 b3 b3x rA3x rX3x rV3x rA3 rX3
              obtain ⟨c0, c1, c2, cl⟩ := id rA4
              go_wp2_with fail
              clear c0 c1 c2 cl
              have b4x := b4.alloc b4.size (.cells #[.int .i64 (s : Int), .int .i64 (t : Int), .int .i64 (y : Int)] 24)
              have rY4x := RegAt.new W4 24 (s : Int) (t : Int) (y : Int)
              have rA4x := rA4.kept (World.grownBy_alloc W4 (.cells #[.int .i64 (s : Int), .int .i64 (t : Int), .int .i64 (y : Int)] 24) none) (by simp)
              have rX4x := rX4.kept (World.grownBy_alloc W4 (.cells #[.int .i64 (s : Int), .int .i64 (t : Int), .int .i64 (y : Int)] 24) none) (by simp)
              refine (C2.out _).mono ?_
              rintro e W5 ⟨rfl, hb5⟩
              have b5 := below_then b4x (Nat.le_refl _) hb5
              have rA5 := rA4x.below hb5 rA4x.2.2.2
              have rX5 := rX4x.below hb5 rX4x.2.2.2
              have rY5 := rY4x.below hb5 rY4x.2.2.2
              clear hb5 b4 b4x rA4x rX4x rY4x rA4 rX4
              obtain ⟨c0, c1, c2, cl⟩ := id rX5
              go_wp2_with fail
              clear c0 c1 c2 cl
              have b5x := b5.alloc b5.size (.cells #[.int .i64 0, .int .i64 0, .int .i64 0] 24)
              have rL5x := RegAt.new W5 24 0 0 0
              have rA5x := rA5.kept (World.grownBy_alloc W5 (.cells #[.int .i64 0, .int .i64 0, .int .i64 0] 24) none) (by simp)
              have rX5x := rX5.kept (World.grownBy_alloc W5 (.cells #[.int .i64 0, .int .i64 0, .int .i64 0] 24) none) (by simp)
              have rY5x := rY5.kept (World.grownBy_alloc W5 (.cells #[.int .i64 0, .int .i64 0, .int .i64 0] 24) none) (by simp)
              refine (C3.out _).mono ?_
              rintro e W6 ⟨rfl, hb6⟩
              have b6 := below_then b5x (Nat.le_refl _) hb6
              have rA6 := rA5x.below hb6 rA5x.2.2.2
              have rY6 := rY5x.below hb6 rY5x.2.2.2
              have rL6 := rL5x.below hb6 rL5x.2.2.2
              clear hb6 b5 b5x rA5x rY5x rL5x rA5 rY5
              obtain ⟨c0, c1, c2, cl⟩ := id rA6
              obtain ⟨d0, d1, d2, dl⟩ := id rY6
              obtain ⟨f0, f1, f2, fl⟩ := id rL6
              have b7 := b6.alloc b6.size (.cells #[.int .i64 (s : Int), .int .i64 (t : Int), .int .i64 (x : Int)] 24)
              go_wp2
              go_ret
              exact ⟨rfl, b7⟩
          · have k3 : jumpAns s t j (-K) = noReg := by
              have h1 : jumpB t (-K) = false := by
                cases h1 : jumpB t (-K) with
                | false => rfl
                | true => simp only [jumpB, Bool.and_eq_true, Bool.or_eq_true, decide_eq_true_eq] at h1; omega
              simp [jumpAns, h1]
            have ht1 : ((t : Int) % 2 == 1) = false := by simp; omega
            by_cases hkm : K + (m : Int) ≤ 5000
            · have k2 : jumpAns s t x (K + m) = ⟨s, t, y, true⟩ := by
                have h1 : jumpB t (K + m) = true := by simp only [jumpB, Bool.and_eq_true, Bool.or_eq_true, decide_eq_true_eq]; omega
                simp [jumpAns, hreg, h1, ← hadd]
              rw [k2] at hc2
              rw [k3] at hc3
              unfold RegAns.val noReg at *
              have HS := Lib.hid hs
              have HI := Lib.hid hi
              have C1 := Lib.hid hc1
              have C2 := Lib.hid hc2
              have C3 := Lib.hid hc3
              clear hs hi hc1 hc2 hc3 k1 k2 k3 he hok hreg hj hrj hadd hjn hy hr hk3
              clear ho
              go_wp2_with fail
              have b1x := b1.alloc b1.size (.cells #[.int .i64 (s : Int), .int .i64 (t : Int), .int .i64 (x : Int)] 24)
              have rA1x := RegAt.new W1 24 (s : Int) (t : Int) (x : Int)
              refine (HI.out _).mono ?_
              rintro e W2 ⟨rfl, hb2⟩
              have b2 := below_then b1x (Nat.le_refl _) hb2
              have rA2 := rA1x.below hb2 rA1x.2.2.2
              clear hb2 b1 b1x rA1x
              obtain ⟨c0, c1, c2, cl⟩ := id rA2
              go_wp2_with fail
              clear c0 c1 c2 cl
              have b2x := b2.alloc b2.size (.cells #[.int .i64 (s : Int), .int .i64 (t : Int), .int .i64 (j : Int)] 24)
              have rX2x := RegAt.new W2 24 (s : Int) (t : Int) (j : Int)
              have rA2x := rA2.kept (World.grownBy_alloc W2 (.cells #[.int .i64 (s : Int), .int .i64 (t : Int), .int .i64 (j : Int)] 24) none) (by simp)
              refine (HS.out _).mono ?_
              rintro e W3 ⟨rfl, hb3⟩
              have b3 := below_then b2x (Nat.le_refl _) hb3
              have rA3 := rA2x.below hb3 rA2x.2.2.2
              have rX3 := rX2x.below hb3 rX2x.2.2.2
              clear hb3 b2 b2x rA2x rX2x rA2
              obtain ⟨c0, c1, c2, cl⟩ := id rA3
              obtain ⟨d0, d1, d2, dl⟩ := id rX3
              have b3x := b3.alloc b3.size (.cells #[.int .i64 (s : Int), .int .i64 (t : Int), .int .i64 (j : Int)] 24)
              have rV3x := RegAt.new W3 24 (s : Int) (t : Int) (j : Int)
              have rA3x := rA3.kept (World.grownBy_alloc W3 (.cells #[.int .i64 (s : Int), .int .i64 (t : Int), .int .i64 (j : Int)] 24) none) (by simp)
              have rX3x := rX3.kept (World.grownBy_alloc W3 (.cells #[.int .i64 (s : Int), .int .i64 (t : Int), .int .i64 (j : Int)] 24) none) (by simp)
              go_wp2_with fail
              clear c0 c1 c2 cl d0 d1 d2 dl
              refine (C1.out _).mono ?_
              rintro e W4 ⟨rfl, hb4⟩
              have b4 := below_then b3x (Nat.le_refl _) hb4
              have rA4 := rA3x.below hb4 rA3x.2.2.2
              have rX4 := rX3x.below hb4 rX3x.2.2.2
              have rV4 := rV3x.below hb4 rV3x.2.2.2
              clear hb4 b3 b3x rA3x rX3x rV3x rA3 rX3
              obtain ⟨c0, c1, c2, cl⟩ := id rA4
              go_wp2_with fail
              clear c0 c1 c2 cl
              have b4x := b4.alloc b4.size (.cells #[.int .i64 (s : Int), .int .i64 (t : Int), .int .i64 (y : Int)] 24)
              have rY4x := RegAt.new W4 24 (s : Int) (t : Int) (y : Int)
              have rA4x := rA4.kept (World.grownBy_alloc W4 (.cells #[.int .i64 (s : Int), .int .i64 (t : Int), .int .i64 (y : Int)] 24) none) (by simp)
              have rX4x := rX4.kept (World.grownBy_alloc W4 (.cells #[.int .i64 (s : Int), .int .i64 (t : Int), .int .i64 (y : Int)] 24) none) (by simp)
              refine (C2.out _).mono ?_
              rintro e W5 ⟨rfl, hb5⟩
              have b5 := below_then b4x (Nat.le_refl _) hb5
              have rA5 := rA4x.below hb5 rA4x.2.2.2
              have rX5 := rX4x.below hb5 rX4x.2.2.2
              have rY5 := rY4x.below hb5 rY4x.2.2.2
              clear hb5 b4 b4x rA4x rX4x rY4x rA4 rX4
              obtain ⟨c0, c1, c2, cl⟩ := id rX5
              go_wp2_with fail
              clear c0 c1 c2 cl
              have b5x := b5.alloc b5.size (.cells #[.int .i64 (s : Int), .int .i64 (t : Int), .int .i64 (y : Int)] 24)
              have rL5x := RegAt.new W5 24 (s : Int) (t : Int) (y : Int)
              have rA5x := rA5.kept (World.grownBy_alloc W5 (.cells #[.int .i64 (s : Int), .int .i64 (t : Int), .int .i64 (y : Int)] 24) none) (by simp)
              have rX5x := rX5.kept (World.grownBy_alloc W5 (.cells #[.int .i64 (s : Int), .int .i64 (t : Int), .int .i64 (y : Int)] 24) none) (by simp)
              have rY5x := rY5.kept (World.grownBy_alloc W5 (.cells #[.int .i64 (s : Int), .int .i64 (t : Int), .int .i64 (y : Int)] 24) none) (by simp)
              refine (C3.out _).mono ?_
              rintro e W6 ⟨rfl, hb6⟩
              have b6 := below_then b5x (Nat.le_refl _) hb6
              have rA6 := rA5x.below hb6 rA5x.2.2.2
              have rY6 := rY5x.below hb6 rY5x.2.2.2
              have rL6 := rL5x.below hb6 rL5x.2.2.2
              clear hb6 b5 b5x rA5x rY5x rL5x rA5 rY5
              obtain ⟨c0, c1, c2, cl⟩ := id rA6
              obtain ⟨d0, d1, d2, dl⟩ := id rY6
              obtain ⟨f0, f1, f2, fl⟩ := id rL6
              have b7 := b6.alloc b6.size (.cells #[.int .i64 0, .int .i64 0, .int .i64 0] 24)
              go_wp2
              go_ret
              exact ⟨ret_bool (by simp; omega), b7⟩
            · have k2 : jumpAns s t x (K + m) = noReg := by
                have h1 : jumpB t (K + m) = false := by
                  cases h1 : jumpB t (K + m) with
                  | false => rfl
                  | true => simp only [jumpB, Bool.and_eq_true, Bool.or_eq_true, decide_eq_true_eq] at h1; omega
                simp [jumpAns, h1]
              rw [k2] at hc2
              rw [k3] at hc3
              unfold RegAns.val noReg at *
              have HS := Lib.hid hs
              have HI := Lib.hid hi
              have C1 := Lib.hid hc1
              have C2 := Lib.hid hc2
              have C3 := Lib.hid hc3
              clear hs hi hc1 hc2 hc3 k1 k2 k3 he hok hreg hj hrj hadd hjn hy hr hk3
              clear ho
              go_wp2_with fail
              have b1x := b1.alloc b1.size (.cells #[.int .i64 (s : Int), .int .i64 (t : Int), .int .i64 (x : Int)] 24)
              have rA1x := RegAt.new W1 24 (s : Int) (t : Int) (x : Int)
              refine (HI.out _).mono ?_
              rintro e W2 ⟨rfl, hb2⟩
              have b2 := below_then b1x (Nat.le_refl _) hb2
              have rA2 := rA1x.below hb2 rA1x.2.2.2
              clear hb2 b1 b1x rA1x
              obtain ⟨c0, c1, c2, cl⟩ := id rA2
              go_wp2_with fail
              clear c0 c1 c2 cl
              have b2x := b2.alloc b2.size (.cells #[.int .i64 (s : Int), .int .i64 (t : Int), .int .i64 (j : Int)] 24)
              have rX2x := RegAt.new W2 24 (s : Int) (t : Int) (j : Int)
              have rA2x := rA2.kept (World.grownBy_alloc W2 (.cells #[.int .i64 (s : Int), .int .i64 (t : Int), .int .i64 (j : Int)] 24) none) (by simp)
              refine (HS.out _).mono ?_
              rintro e W3 ⟨rfl, hb3⟩
              have b3 := below_then b2x (Nat.le_refl _) hb3
              have rA3 := rA2x.below hb3 rA2x.2.2.2
              have rX3 := rX2x.below hb3 rX2x.2.2.2
              clear hb3 b2 b2x rA2x rX2x rA2
              obtain ⟨c0, c1, c2, cl⟩ := id rA3
              obtain ⟨d0, d1, d2, dl⟩ := id rX3
              have b3x := b3.alloc b3.size (.cells #[.int .i64 (s : Int), .int .i64 (t : Int), .int .i64 (j : Int)] 24)
              have rV3x := RegAt.new W3 24 (s : Int) (t : Int) (j : Int)
              have rA3x := rA3.kept (World.grownBy_alloc W3 (.cells #[.int .i64 (s : Int), .int .i64 (t : Int), .int .i64 (j : Int)] 24) none) (by simp)
              have rX3x := rX3.kept (World.grownBy_alloc W3 (.cells #[.int .i64 (s : Int), .int .i64 (t : Int), .int .i64 (j : Int)] 24) none) (by simp)
              go_wp2_with fail
              clear c0 c1 c2 cl d0 d1 d2 dl
              refine (C1.out _).mono ?_
              rintro e W4 ⟨rfl, hb4⟩
              have b4 := below_then b3x (Nat.le_refl _) hb4
              have rA4 := rA3x.below hb4 rA3x.2.2.2
              have rX4 := rX3x.below hb4 rX3x.2.2.2
              have rV4 := rV3x.below hb4 rV3x.2.2.2
              clear hb4 b3 b3x rA3x rX3x rV3x rA3 rX3
              obtain ⟨c0, c1, c2, cl⟩ := id rA4
              go_wp2_with fail
              clear c0 c1 c2 cl
              have b4x := b4.alloc b4.size (.cells #[.int .i64 (s : Int), .int .i64 (t : Int), .int .i64 (y : Int)] 24)
              have rY4x := RegAt.new W4 24 (s : Int) (t : Int) (y : Int)
              have rA4x := rA4.kept (World.grownBy_alloc W4 (.cells #[.int .i64 (s : Int), .int .i64 (t : Int), .int .i64 (y : Int)] 24) none) (by simp)
              have rX4x := rX4.kept (World.grownBy_alloc W4 (.cells #[.int .i64 (s : Int), .int .i64 (t : Int), .int .i64 (y : Int)] 24) none) (by simp)
              refine (C2.out _).mono ?_
              rintro e W5 ⟨rfl, hb5⟩
              have b5 := below_then b4x (Nat.le_refl _) hb5
              have rA5 := rA4x.below hb5 rA4x.2.2.2
              have rX5 := rX4x.below hb5 rX4x.2.2.2
              have rY5 := rY4x.below hb5 rY4x.2.2.2
              clear hb5 b4 b4x rA4x rX4x rY4x rA4 rX4
              obtain ⟨c0, c1, c2, cl⟩ := id rX5
              go_wp2_with fail
              clear c0 c1 c2 cl
              have b5x := b5.alloc b5.size (.cells #[.int .i64 0, .int .i64 0, .int .i64 0] 24)
              have rL5x := RegAt.new W5 24 0 0 0
              have rA5x := rA5.kept (World.grownBy_alloc W5 (.cells #[.int .i64 0, .int .i64 0, .int .i64 0] 24) none) (by simp)
              have rX5x := rX5.kept (World.grownBy_alloc W5 (.cells #[.int .i64 0, .int .i64 0, .int .i64 0] 24) none) (by simp)
              have rY5x := rY5.kept (World.grownBy_alloc W5 (.cells #[.int .i64 0, .int .i64 0, .int .i64 0] 24) none) (by simp)
              refine (C3.out _).mono ?_
              rintro e W6 ⟨rfl, hb6⟩
              have b6 := below_then b5x (Nat.le_refl _) hb6
              have rA6 := rA5x.below hb6 rA5x.2.2.2
              have rY6 := rY5x.below hb6 rY5x.2.2.2
              have rL6 := rL5x.below hb6 rL5x.2.2.2
              clear hb6 b5 b5x rA5x rY5x rL5x rA5 rY5
              obtain ⟨c0, c1, c2, cl⟩ := id rA6
              obtain ⟨d0, d1, d2, dl⟩ := id rY6
              obtain ⟨f0, f1, f2, fl⟩ := id rL6
              have b7 := b6.alloc b6.size (.cells #[.int .i64 0, .int .i64 0, .int .i64 0] 24)
              go_wp2
              go_ret
              exact ⟨ret_bool (by simp; omega), b7⟩
end Go.Proofs.Ytnpaigpdbjadlaa
