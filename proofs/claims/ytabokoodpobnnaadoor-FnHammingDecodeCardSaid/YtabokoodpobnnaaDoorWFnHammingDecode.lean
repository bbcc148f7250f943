/- The walk of the law FnHammingDecode. -/
import Derived.Test.YtabokoodpobnnaaDoorDrawHamD
import Derived.Test.YtabokoodpobnnaaDoorFrm14
import Derived.Test.YtabokoodpobnnaaDoorFrm20
namespace Go.Proofs.YtabokoodpobnnaaDoor
open Go.RowKit
set_option linter.unusedVariables false
set_option maxHeartbeats 1600000 in
set_option maxRecDepth 100000 in
theorem fnHammingDecode_walk (a0 : Option Addr) (len0 cap0 : Nat) (z0 : List Int) (w : World) (w0 : IsBytes w a0 len0 cap0 z0) (hp : PlacesAt w) (h0 : 0 < w.heap.size) :
    Calls Tryd.prog 5 #[.slice a0 len0 cap0] w fun e w' => e = .returned (.bool true) ∧ Below w.heap.size w w' := by
  by_cases hl : 1048576 < len0
  · go_enter Tryd.func5, Tryd.ntmps5
    go_wp2
    go_ret
    exact ⟨rfl, Below.refl _ _⟩
  have HP := Lib.hid (fun w1 (b1 : Below w.heap.size w w1) => (⟨PlacesAt.below hp h0 b1, Nat.lt_of_lt_of_le h0 b1.size⟩ : PlacesAt w1 ∧ 0 < w1.heap.size))
  clear hp h0
  go_enter Tryd.func5, Tryd.ntmps5
  go_wp2_with fail
  refine (drawHamD_any a0 len0 cap0 z0 _ w0).mono ?_
  rintro e W1 ⟨z, rfl, hz, b1⟩
  clear w0
  by_cases hok : bitsB z = true ∧ z.size % 7 = 0
  · obtain ⟨Y, B, hA, hY, hE, hB, hD⟩ := again hok.1 hok.2
    have HI := Lib.hid (fun w1 (b1 : Below w.heap.size w w1) => iHd_any z w1 (by omega) (HP.out w1 b1).1 (HP.out w1 b1).2)
    have HS := Lib.hid (fun w1 => sHd_any z w1 (by omega))
    have HN := Lib.hid (fun w1 (b1 : Below w.heap.size w w1) => iHe_any Y w1 (by omega) (HP.out w1 b1).1 (HP.out w1 b1).2)
    rw [hA] at HI HS
    rw [hE] at HN
    obtain ⟨C, hC⟩ : ∃ C, cntF z (z.size / 7) = C := ⟨_, rfl⟩
    rw [hC] at hD HI HS
    have HD := Lib.hid hD
    have hBs : (B.size : Int) = (z.size : Int) := by omega
    clear hA hE hD hC hok HP
    go_wp2_with fail
    refine (HI.out _ b1).mono ?_
    rintro e w2 ⟨rfl, hB2⟩
    have b2 := below_then b1 (Nat.le_refl _) hB2
    clear b1 hB2
    go_wp2_with fail
    refine (HS.out _).mono ?_
    rintro e w3 ⟨rfl, hB3⟩
    have b3 := below_then b2 (Nat.le_refl _) hB3
    clear b2 hB3 HI HS
    go_wp2_with fail
    refine (HN.out _ b3).mono ?_
    rintro e w4 ⟨rfl, hB4⟩
    have b4 := below_then b3 (Nat.le_refl _) hB4
    clear b3 hB4 HN
    go_wp2
    go_loopw [12, 13] (fun v i wr => ∃ k : Nat, k ≤ z.size ∧ i = .int .i64 k ∧ v = .int .i64 (difN (zb B) (zb z) k : Nat) ∧ Below w.heap.size w wr) (fun _ i _ => z.size - (intOf i).toNat)
    case atStart => exact ⟨0, by omega, rfl, rfl, b4⟩
    case round =>
      clear b4
      obtain ⟨k, hk, rfl, rfl, rb⟩ := hrel
      by_cases hlt : k < z.size
      · have hn : difN (zb B) (zb z) (k + 1) = difN (zb B) (zb z) k + (if zb B k = zb z k then 0 else 1) := rfl
        have hle := difN_le (zb B) (zb z) k
        have i1 : (k : Int) < (z.size : Int) := by omega
        have i2 : (k : Int) < (B.size : Int) := by omega
        have i3 : k < B.size := by omega
        rw [← zb_at B k i3, ← zb_at z k hlt] at hn
        obtain ⟨D, hDD⟩ : ∃ D, difN (zb B) (zb z) k = D := ⟨_, rfl⟩
        rw [hDD] at hn hle ⊢
        obtain ⟨P, hP⟩ : ∃ P, B[k].toNat = P := ⟨_, rfl⟩
        obtain ⟨Q, hQ⟩ : ∃ P, z[k].toNat = P := ⟨_, rfl⟩
        have hP' : (B[k].toNat : Int) = (P : Int) := by rw [hP]
        have hQ' : (z[k].toNat : Int) = (Q : Int) := by rw [hQ]
        rw [hP, hQ] at hn
        by_cases he : P = Q
        · rw [if_pos he] at hn
          have t1 : ((P : Int) != (Q : Int)) = false := by rw [he]; simp
          have HN := Lib.hid hn
          clear hn hDD hP hQ he
          go_wp2_with fail
          go_quiet (fail)
          have rb2 := below_drewN rb nq
          clear rb t1
          go_wp2
          go_roundw
          case rel => exact ⟨k + 1, by omega, by go_num, by rw [HN.out]; rfl, rb2⟩
          case measure => simp [intOf]; omega
        · rw [if_neg he] at hn
          have t1 : ((P : Int) != (Q : Int)) = true := by simp; omega
          have HN := Lib.hid hn
          clear hn hDD hP hQ he
          go_wp2_with fail
          go_quiet (fail)
          have rb2 := below_drewN rb nq
          clear rb t1
          go_wp2
          go_roundw
          case rel => exact ⟨k + 1, by omega, by go_num, by rw [HN.out]; first | rfl | (congr 1; done) | (congr 1; omega) | simp, rb2⟩
          case measure => simp [intOf]; omega
      · obtain rfl : k = z.size := by omega
        rw [HD.out]
        go_wp2
        go_ret
        exact ⟨rfl, rb⟩
  · have hA := hd_no hok
    have HI := Lib.hid (fun w1 (b1 : Below w.heap.size w w1) => iHd_any z w1 (by omega) (HP.out w1 b1).1 (HP.out w1 b1).2)
    have HS := Lib.hid (fun w1 => sHd_any z w1 (by omega))
    rw [hA] at HI HS
    clear hA hok HP
    go_wp2_with fail
    refine (HI.out _ b1).mono ?_
    rintro e w2 ⟨rfl, hB2⟩
    have b2 := below_then b1 (Nat.le_refl _) hB2
    clear b1 hB2
    go_wp2_with fail
    refine (HS.out _).mono ?_
    rintro e w3 ⟨rfl, hB3⟩
    have b3 := below_then b2 (Nat.le_refl _) hB3
    clear b2 hB3 HI HS
    go_wp2
    go_ret
    exact ⟨rfl, b3⟩
end Go.Proofs.YtabokoodpobnnaaDoor
