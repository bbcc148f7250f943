/- The walk of the law FnDecimate. -/
import Derived.Test.YtohnefgjalimfaaDraw10
import Derived.Test.YtohnefgjalimfaaSeqYes
namespace Go.Proofs.Ytohnefgjalimfaa
open Go.RowKit
set_option linter.unusedVariables false
set_option maxHeartbeats 1600000 in
set_option maxRecDepth 100000 in
theorem fnDecimate_walk (a0 : Option Addr) (len0 cap0 : Nat) (z0 : List Int) (a1 : Option Addr) (len1 cap1 : Nat) (z1 : List Int) (w : World) (w0 : IsBytes w a0 len0 cap0 z0) (w1 : IsBytes w a1 len1 cap1 z1) :
    Calls Try.prog 10 #[.slice a0 len0 cap0, .slice a1 len1 cap1] w fun e w' => e = .returned (.bool true) ∧ Below w.heap.size w w' := by
  by_cases hl0 : 1048576 < len0
  · go_enter Try.func10, Try.ntmps10
    go_wp2
    go_ret
    exact ⟨rfl, Below.refl _ _⟩
  by_cases hl1 : 1048576 < len1
  · go_enter Try.func10, Try.ntmps10
    go_wp2
    go_ret
    exact ⟨rfl, Below.refl _ _⟩
  clear w1
  go_enter Try.func10, Try.ntmps10
  go_wp2_with fail
  refine (drawDec_any a0 len0 cap0 z0 _ w0).mono ?_
  rintro e W1 ⟨z, k, rfl, hz, hk, b1⟩
  clear w0
  by_cases hv : seqB z = true ∧ 0 ≤ k ∧ k ≤ 255
  rotate_left
  · have hI := fun w => iDec_any z k w (by omega)
    have hS := fun w => sDec_any z k w (by omega)
    rw [decAns_no hv] at hI hS
    have HI := Lib.hid hI
    have HS := Lib.hid hS
    clear hv hz hk hI hS
    go_wp2_with fail
    refine (HI.out _).mono ?_
    rintro e w' ⟨rfl, hB⟩
    have c1 := below_then b1 (Nat.le_refl _) hB
    clear hB b1
    go_wp2_with fail
    refine (HS.out _).mono ?_
    rintro e w' ⟨rfl, hB⟩
    have c2 := below_then c1 (Nat.le_refl _) hB
    clear hB c1
    go_wp2
    go_ret
    exact ⟨rfl, c2⟩
  · obtain ⟨hv, hk0, hk1⟩ := hv
    obtain ⟨q, rfl⟩ : ∃ q : Nat, k = q := ⟨k.toNat, by omega⟩
    have hq : q ≤ 255 := by omega
    have h12 := size_le hv
    obtain ⟨m', hm'⟩ : ∃ m' : Nat, len1 % 9 = m' := ⟨_, rfl⟩
    have hmm : (len1 : Int) % 9 = (m' : Int) := by omega
    have hm1 : m' < 9 := by omega
    have HI := Lib.hid (fun w => iDec_yes z q w hv hq)
    have HS := Lib.hid (fun w => sDec_yes z q w hv hq)
    have hQl : q * m' % z.size < z.size := Nat.mod_lt _ (by omega)
    have hP : q * m' ≤ 255 * 9 := Nat.mul_le_mul hq (by omega)
    have H1 := Lib.hid (fun w => iDec_yes (decS z q) m' w (seqB_decS q hv) (by omega))
    rw [decS_decS] at H1
    have H2 := Lib.hid (fun w => iDec_yes z (q * m' % z.size) w hv (by omega))
    have H3 := Lib.hid (fun w => iDec_yes z 1 w hv (by omega))
    rw [decS_one] at H3
    have p1 : (q : Int) * (m' : Int) = ((q * m' : Nat) : Int) := (Int.natCast_mul _ _).symm
    have p2 : ((q * m' : Nat) : Int) % (z.size : Int) = ((q * m' % z.size : Nat) : Int) := (Int.natCast_emod _ _).symm
    obtain ⟨P, hPP⟩ : ∃ P, q * m' = P := ⟨_, rfl⟩
    rw [hPP] at p1 p2 H1 H2 hQl hP
    obtain ⟨Q, hQQ⟩ : ∃ Q, P % z.size = Q := ⟨_, rfl⟩
    rw [hQQ] at p2 H1 H2 hQl
    obtain ⟨Y, hY⟩ : ∃ Y, decS z Q = Y := ⟨_, rfl⟩
    rw [hY] at H1 H2
    have hXs := decS_size z q
    have HX := Lib.hid (fun i hi => zb_decS z q i hi)
    obtain ⟨X, hX⟩ : ∃ X, decS z q = X := ⟨_, rfl⟩
    rw [hX] at HI HS H1 hXs HX
    have H3' : Hid (∀ w, Calls Try.prog 39 #[.string z, .int .i64 1] w fun e w' => e = .returned (.tuple #[.string z, .bool true]) ∧ Below w.heap.size w w') := Lib.hid H3.out
    have q2 : 0 ≤ (q : Int) := by omega
    have q3 : (q : Int) ≤ 255 := by omega
    have HXS := Lib.hid hXs
    have x1 : X.size ≤ 255 := by omega
    have x2 : (X.size : Int) ≤ 255 := by omega
    have P1 := Lib.hid p1
    have P2 := Lib.hid p2
    clear hPP hQQ hY hX hm' hk H3 hXs p1 p2
    go_wp2_with fail
    refine (HI.out _).mono ?_
    rintro e w' ⟨rfl, hB⟩
    have c1 := below_then b1 (Nat.le_refl _) hB
    clear hB b1
    go_wp2_with fail
    refine (HS.out _).mono ?_
    rintro e w' ⟨rfl, hB⟩
    have c2 := below_then c1 (Nat.le_refl _) hB
    clear hB c1
    go_wp2_with fail
    refine (H1.out _).mono ?_
    rintro e w' ⟨rfl, hB⟩
    have c3 := below_then c2 (Nat.le_refl _) hB
    clear hB c2
    have p1 := P1.out
    have p2 := P2.out
    go_wp2_with fail
    refine (H2.out _).mono ?_
    rintro e w' ⟨rfl, hB⟩
    have c10 := below_then c3 (Nat.le_refl _) hB
    clear hB c3
    clear p1 p2
    go_wp2_with fail
    refine (H3'.out _).mono ?_
    rintro e w' ⟨rfl, hB⟩
    have c20 := below_then c10 (Nat.le_refl _) hB
    clear hB c10
    go_wp2_with fail
    go_loopw [18] (fun i wr => ∃ j : Nat, j ≤ X.size ∧ i = .int .i64 j ∧ Below w.heap.size w wr) (fun i _ => X.size - (intOf i).toNat)
    case atStart => exact ⟨0, by omega, rfl, c20⟩
    case round =>
      obtain ⟨j, hj, rfl, rb⟩ := hrel
      by_cases hlt : j < X.size
      · obtain ⟨P', Q', a1, a2, a3, a4, a5, a6⟩ := dec_prod q j z.size hq (by have := HXS.out; omega) h12.2
        have hx := HX.out j (by have := HXS.out; omega)
        rw [a6, ← zb_at X j hlt, ← zb_at z Q' a4] at hx
        have ht : (((X[j].toNat : Nat) : Int) != ((z[Q'].toNat : Nat) : Int)) = false := by rw [hx]; simp
        have ht2 : (((X[j].toNat : Nat) : Int) == ((z[Q'].toNat : Nat) : Int)) = true := by rw [hx]; simp
        have i0 : (0 : Int) ≤ (j : Int) := by omega
        have i1 : (j : Int) < (X.size : Int) := by omega
        have i2 : (0 : Int) ≤ (Q' : Int) := by omega
        have i3 : (Q' : Int) < (z.size : Int) := by omega
        have i4 : IntKind.i64.wrap (P' : Int) = (P' : Int) := IntWalk.i64_in _ (by omega)
        have i5 : (P' : Int).tmod (z.size : Int) = (Q' : Int) := by rw [Int.tmod_eq_emod_of_nonneg (by omega)]; exact a3
        clear hx a2 a5 a6
        obtain ⟨W, hW⟩ : ∃ W, wr = W := ⟨_, rfl⟩
        rw [hW] at rb ⊢
        clear hW
        go_wp2_with fail
        go_quiet (fail)
        clear a1 a3 i4 i5
        go_wp2
        go_roundw
        case rel => exact ⟨j + 1, by omega, by go_num, below_drewN rb _⟩
        case measure => simp [intOf]; omega
      · have hx := HX.out 0 (by omega)
        rw [Nat.mul_zero, Nat.zero_mod] at hx
        have hX0 : 0 < X.size := by have := HXS.out; omega
        have hz0 : 0 < z.size := by omega
        rw [← zb_at X 0 hX0, ← zb_at z 0 hz0] at hx
        have ht : (((X[0].toNat : Nat) : Int) == ((z[0].toNat : Nat) : Int)) = true := by rw [hx]; simp
        have i1 : (0 : Int) < (X.size : Int) := by omega
        have i3 : (0 : Int) < (z.size : Int) := by omega
        clear hx
        obtain ⟨W, hW⟩ : ∃ W, wr = W := ⟨_, rfl⟩
        rw [hW] at rb ⊢
        clear hW
        go_wp2_with fail
        go_quiet (fail)
        go_wp2
        go_ret
        exact ⟨rfl, below_drewN rb _⟩
end Go.Proofs.Ytohnefgjalimfaa
