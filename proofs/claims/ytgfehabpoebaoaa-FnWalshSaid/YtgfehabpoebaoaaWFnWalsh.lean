/- The walk of the law FnWalsh. -/
import Derived.Test.YtgfehabpoebaoaaDrawWal
import Derived.Test.YtgfehabpoebaoaaWalUse
namespace Go.Proofs.Ytgfehabpoebaoaa
open Go.RowKit
set_option linter.unusedVariables false
set_option maxHeartbeats 6400000 in
set_option maxRecDepth 100000 in
theorem fnWalsh_walk (a0 : Option Addr) (len0 cap0 : Nat) (z0 : List Int) (w : World) (w0 : IsBytes w a0 len0 cap0 z0) :
    Calls Try.prog 7 #[.slice a0 len0 cap0] w fun e w' => e = .returned (.bool true) ∧ Below w.heap.size w w' := by
  by_cases hl0 : 1048576 < len0
  · go_enter Try.func7, Try.ntmps7
    go_wp2
    go_ret
    exact ⟨rfl, Below.refl _ _⟩
  go_enter Try.func7, Try.ntmps7
  go_wp2_with fail
  refine (drawWC_any a0 len0 cap0 z0 _ w0).mono ?_
  rintro e W1 ⟨o, i, rfl, bc⟩
  clear w0
  have hi := fun w => iWalsh_any o i w
  have hs := fun w => sWalsh_any o i w
  by_cases hv : (0 ≤ o ∧ o ≤ 6) ∧ 0 ≤ i ∧ i < tw o.toNat
  · skip
    obtain ⟨O, rfl⟩ : ∃ O : Nat, o = (O : Int) := ⟨o.toNat, by omega⟩
    obtain ⟨I, rfl⟩ : ∃ I : Nat, i = (I : Int) := ⟨i.toNat, by omega⟩
    rw [Int.toNat_natCast] at hv
    have hO : O ≤ 6 := by omega
    have hI : I < tw O := by omega
    clear hv
    obtain ⟨N, G, n1, n64, p2, hIN, ha, hz, hx, hL, hC, hA, hX⟩ := wal_all O I hO hI
    rw [ha] at hi hs
    obtain ⟨A, hA0⟩ : ∃ A, G I = A := ⟨_, rfl⟩
    rw [hA0] at hi hs hz hX
    simp only [hA0] at hC hA
    have HIN := Lib.hid hIN
    have HXL := Lib.hid hx
    clear ha hA0 hI hIN hx
    have HI := Lib.hid hi
    have HS := Lib.hid hs
    have HL := Lib.hid hL
    have HC := Lib.hid hC
    have HA := Lib.hid hA
    have HX := Lib.hid hX
    clear hi hs hL hC hA hX
    go_wp2_with fail
    refine (HI.out _).mono ?_
    rintro e w101 ⟨rfl, hb102⟩
    have b103 := below_then bc (Nat.le_refl _) hb102
    clear bc
    have bc := b103
    clear b103 hb102
    go_wp2_with fail
    refine (HS.out _).mono ?_
    rintro e w104 ⟨rfl, hb105⟩
    have b106 := below_then bc (Nat.le_refl _) hb105
    clear bc
    have bc := b106
    clear b106 hb105
    have P2 := Lib.hid p2
    go_wp2_with fail
    refine (HX.out _).mono ?_
    rintro e w107 ⟨rfl, hb108⟩
    have b109 := below_then bc (Nat.le_refl _) hb108
    clear bc
    have bc := b109
    clear b109 hb108
    clear HI HS HX
    go_wp2_with fail
    go_loopw [12] (fun i wr => ∃ j : Nat, j ≤ N ∧ i = .int .i64 (j : Int) ∧ Below w107.heap.size w107 wr) (fun i _ => N - (intOf i).toNat)
    case atStart => exact ⟨0, by omega, rfl, Below.refl _ _⟩
    case round =>
      obtain ⟨j, hj, rfl, rb⟩ := hrel
      by_cases hlt : j < N
      · skip
        have i1 : (j : Int) < (N : Int) := by omega
        have HLJ := Lib.hid (HL.out j hlt)
        have HCJ := Lib.hid (HC.out j hlt)
        have HAJ := Lib.hid (HA.out j hlt)
        have hX := HXL.out j hlt
        have hxx := xor64 I j (by have := HIN.out; omega) (by omega)
        obtain ⟨X, hX0⟩ : ∃ X, I ^^^ j = X := ⟨_, rfl⟩
        rw [hX0] at hX hxx HAJ
        have HLX := Lib.hid (HL.out X hX)
        clear hX hX0 HL HC HA
        obtain ⟨Z, hZ⟩ : ∃ Z, G X = Z := ⟨_, rfl⟩
        rw [hZ] at HLX HAJ
        clear hZ
        have m0 : ¬ ((N : Int) = 0) := by omega
        have m1 : ((N : Int) == 0) = false := by simp; omega
        have m2 : ¬ (N = 0) := by omega
        have m3 : ((0 : Int) == (N : Int)) = false := by simp; omega
        have m4 : ¬ ((0 : Int) = (N : Int)) := by omega
        have hcj := HCJ.out
        clear HCJ
        by_cases he : I = j
        · skip
          rw [if_pos he] at hcj
          subst he
          have HCJ := Lib.hid hcj
          clear hcj
          go_wp2_with fail
          refine (HLJ.out _).mono ?_
          rintro e x1 ⟨rfl, hb1⟩
          have r1 := below_then rb (Nat.le_refl _) hb1
          clear rb hb1
          go_wp2_with fail
          refine (HCJ.out _).mono ?_
          rintro e x2 ⟨rfl, hb2⟩
          have r2 := below_then r1 (Nat.le_refl _) hb2
          clear r1 hb2
          go_wp2_with fail
          refine (HAJ.out _).mono ?_
          rintro e x3 ⟨rfl, hb3⟩
          have r3 := below_then r2 (Nat.le_refl _) hb3
          clear r2 hb3 HLJ HCJ HAJ
          go_wp2_with fail
          refine (HLX.out _).mono ?_
          rintro e x4 ⟨rfl, hb4⟩
          have r4 := below_then r3 (Nat.le_refl _) hb4
          clear r3 hb4 HLX
          go_wp2
          go_roundw
          case rel => exact ⟨I + 1, by omega, by go_num, r4⟩
          case measure => simp [intOf]; omega
        · skip
          rw [if_neg he] at hcj
          have q0 : ((I : Int) == (j : Int)) = false := by simp; omega
          have q1 : ¬ ((I : Int) = (j : Int)) := by omega
          have q2 : ((I : Int) != (j : Int)) = true := by rw [bne, q0]; rfl
          have HCJ := Lib.hid hcj
          clear hcj
          go_wp2_with fail
          refine (HLJ.out _).mono ?_
          rintro e x1 ⟨rfl, hb1⟩
          have r1 := below_then rb (Nat.le_refl _) hb1
          clear rb hb1
          go_wp2_with fail
          refine (HCJ.out _).mono ?_
          rintro e x2 ⟨rfl, hb2⟩
          have r2 := below_then r1 (Nat.le_refl _) hb2
          clear r1 hb2
          go_wp2_with fail
          refine (HAJ.out _).mono ?_
          rintro e x3 ⟨rfl, hb3⟩
          have r3 := below_then r2 (Nat.le_refl _) hb3
          clear r2 hb3 HLJ HCJ HAJ
          go_wp2_with fail
          refine (HLX.out _).mono ?_
          rintro e x4 ⟨rfl, hb4⟩
          have r4 := below_then r3 (Nat.le_refl _) hb4
          clear r3 hb4 HLX
          go_wp2
          go_roundw
          case rel => exact ⟨j + 1, by omega, by go_num, r4⟩
          case measure => simp [intOf]; omega
      · skip
        obtain rfl : j = N := by omega
        have bc9 := below_then bc (Nat.le_refl _) rb
        clear bc rb
        go_wp2
        go_ret
        exact ⟨rfl, bc9⟩
  · skip
    rw [walshAns_no hv] at hi hs
    have HI := Lib.hid hi
    have HS := Lib.hid hs
    clear hi hs
    clear hv
    go_wp2_with fail
    refine (HI.out _).mono ?_
    rintro e w710 ⟨rfl, hb711⟩
    have b712 := below_then bc (Nat.le_refl _) hb711
    clear bc
    have bc := b712
    clear b712 hb711
    go_wp2_with fail
    refine (HS.out _).mono ?_
    rintro e w713 ⟨rfl, hb714⟩
    have b715 := below_then bc (Nat.le_refl _) hb714
    clear bc
    have bc := b715
    clear b715 hb714
    go_wp2
    go_ret
    exact ⟨rfl, bc⟩
end Go.Proofs.Ytgfehabpoebaoaa
