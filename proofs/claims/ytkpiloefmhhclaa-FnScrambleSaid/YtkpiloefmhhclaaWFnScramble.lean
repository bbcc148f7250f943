/- The walk of the law FnScramble. -/
import Derived.Test.YtkpiloefmhhclaaDrawFrm
import Derived.Test.YtkpiloefmhhclaaDrawRun
import Derived.Test.YtkpiloefmhhclaaFrm8
import Derived.Test.YtkpiloefmhhclaaSsStr
import Derived.Deep.RegionHeld3
namespace Go.Proofs.Ytkpiloefmhhclaa
open Go.RowKit
set_option linter.unusedVariables false
set_option maxRecDepth 100000
def DrawBitsReg (w : World) (e : Ending) (w' : World) : Prop := ∃ (z : ByteArray) (S T X : Int), e = .returned (.tuple #[.string z, .agg #[.int .i64 S, .int .i64 T, .int .i64 X]]) ∧ z.size ≤ 700 ∧ Below w.heap.size w w'
theorem bitsMk {z : ByteArray} (h : okB z z.size = true) (h6 : z.size ≤ 600) : bitsB z = true := by unfold bitsB; rw [h, decide_eq_true h6]; rfl
theorem addS_twice {z y : ByteArray} (hz : okB z z.size = true) (hy : okB y y.size = true) (h : z.size = y.size) : addS (addS z y) y = z := by
  symm
  unfold addS
  rw [strF_size]
  apply strF_of _ _ _ rfl
  intro i hi
  have e : zb (strF z.size (fun i => addB (zb z i) (zb y i))) i = addB (zb z i) (zb y i) := zb_addS z y i hi
  rw [e]
  rcases okB_zb z hz i hi with a | a <;> rcases okB_zb y hy i (by omega) with b | b <;> rw [a, b] <;> decide
theorem addS_swap {z y : ByteArray} (hz : okB z z.size = true) (hy : okB y y.size = true) (h : z.size = y.size) : addS (addS z y) z = y := by
  symm
  unfold addS
  rw [strF_size]
  apply strF_of _ _ _ h.symm
  intro i hi
  have e : zb (strF z.size (fun i => addB (zb z i) (zb y i))) i = addB (zb z i) (zb y i) := zb_addS z y i hi
  rw [e]
  rcases okB_zb z hz i hi with a | a <;> rcases okB_zb y hy i (by omega) with b | b <;> rw [a, b] <;> decide
def zerS (n : Nat) : ByteArray := strF n (fun _ => 48)
theorem zerS_size (n : Nat) : (zerS n).size = n := strF_size _ _
theorem zb_zerS {n i : Nat} (h : i < n) : zb (zerS n) i = 48 := zb_strF h (by decide)
theorem zerS_ok (n : Nat) : okB (zerS n) (zerS n).size = true := okB_of_zb _ fun i hi => by rw [zerS_size] at hi; left; exact zb_zerS hi
theorem addS_zer {y : ByteArray} (hy : okB y y.size = true) : addS (zerS y.size) y = y := by
  symm
  unfold addS
  rw [zerS_size]
  apply strF_of _ _ _ rfl
  intro i hi
  rw [zb_zerS hi]
  rcases okB_zb y hy i hi with b | b <;> rw [b] <;> decide
set_option maxHeartbeats 1600000 in
theorem drawScr_any (a : Option Addr) (len cap : Nat) (zs : List Int) (w : World) (h : IsBytes w a len cap zs) :
    Calls Try.prog 9 #[.slice a len cap] w (DrawBitsReg w) := by
  go_enter Try.func9, Try.ntmps9
  go_wp2_with fail
  obtain ⟨W, hB, hD, hf, hz, hW⟩ := one_new w 24
  rw [hW]
  clear hW
  have h' : IsBytes W a len cap zs := h.below hB
  refine (open_any a len cap zs _ h').mono ?_
  rintro e w1 ⟨b, ys, rfl, hr1, hb1, hlb⟩
  have b1 := below_then hB (Nat.le_refl _) hb1
  have hD1 := hD.below hb1 hD.2.2.2
  have HF1 : Hid (∀ o, w1.frozen? ⟨w.heap.size, o, none⟩ = false) := fun o => (hb1.frozen (p := ⟨w.heap.size, o, none⟩) hD.2.2.2).trans (hf o)
  have hlb' : w.heap.size < b := by omega
  clear hB hD hf h h' hb1 hlb hz
  go_wp2_with fail
  refine (l1String_any b 0 30 ys _ hr1 (by omega) (by omega)).mono ?_
  rintro e w2 ⟨z, q, rfl, hz, hq, hr2, hg2⟩
  have b2 := below_grown b1 (Nat.le_refl _) hg2 (by omega)
  have hD2 := hD1.kept hg2 (by simp; omega)
  have HF2 : Hid (∀ o, w2.frozen? ⟨w.heap.size, o, none⟩ = false) := fun o => frozen_kept' (HF1.out o) hD1.2.2.2 hg2 (by simp; omega)
  clear b1 hr1 hD1 HF1 hg2
  go_wp2_with fail
  refine (l6Wild_any b q ys z _ hr2 (by omega) (by omega)).mono ?_
  rintro e w3 ⟨y, q3, rfl, hy, hq3, hr3, hg3⟩
  have b3 := below_grown b2 (Nat.le_refl _) hg3 (by omega)
  have hD3 := hD2.kept hg3 (by simp; omega)
  have HF3 : Hid (∀ o, w3.frozen? ⟨w.heap.size, o, none⟩ = false) := fun o => frozen_kept' (HF2.out o) hD2.2.2.2 hg3 (by simp; omega)
  clear b2 hr2 hD2 HF2 hg3
  go_wp2_with fail
  refine (l1Open_any b q3 ys _ hr3 (by omega)).mono ?_
  rintro e w4 ⟨S, T, X, q4, rfl, fS, fT, fX, hq4, hr4, hg4⟩
  have b4 := below_grown b3 (Nat.le_refl _) hg4 (by omega)
  have hD4 := hD3.kept hg4 (by simp; omega)
  have g0 := frozen_kept' (HF3.out 0) hD3.2.2.2 hg4 (by simp; omega)
  have g1 := frozen_kept' (HF3.out 1) hD3.2.2.2 hg4 (by simp; omega)
  have g2 := frozen_kept' (HF3.out 2) hD3.2.2.2 hg4 (by simp; omega)
  obtain ⟨d0, d1, d2, dl⟩ := hD4
  clear b3 hr3 hD3 HF3 hg4 hr4
  go_wp2
  refine bodyPost_ret (v := .tuple #[.string y, .agg #[.int .i64 S, .int .i64 T, .int .i64 X]]) (by simp [results, Try.results9, go_sem, d0, d1, d2]) rfl ⟨y, S, T, X, rfl, hy, ?_⟩
  exact ((b4.setCell (p := ⟨w.heap.size, 0, none⟩) (Nat.le_refl _) _).setCell (p := ⟨w.heap.size, 1, none⟩) (Nat.le_refl _) _).setCell (p := ⟨w.heap.size, 2, none⟩) (Nat.le_refl _) _
theorem ssZeros_any (n : Nat) (w : World) (hn : n ≤ 1048576) :
    Calls Try.prog 12 #[.int .i64 n] w fun e w' => e = .returned (.string (zerS n)) ∧ Below w.heap.size w w' := by
  have hmk := make_bytes_cap n hn
  have O0 := BO.made0 w n (fun _ => 48) hn
  have b0 := (Below.refl w.heap.size w).alloc (Nat.le_refl _) (.cells (madeCells #[.int .u8 0] n) 5)
  go_enter Try.func12, Try.ntmps12
  go_wp2
  go_loopw [3, 4] (fun v i wr => ∃ k : Nat, k ≤ n ∧ i = .int .i64 k ∧ v = .slice (some ⟨w.heap.size, 0, none⟩) k n ∧ BO wr w.heap.size (.slice (some ⟨w.heap.size, 0, none⟩) k n) k (fun _ => 48) ∧ Below w.heap.size w wr) (fun _ i _ => n - (intOf i).toNat)
  case atStart => exact ⟨0, by omega, rfl, rfl, O0, b0⟩
  case round =>
    obtain ⟨k, hk, rfl, rfl, rO, rb⟩ := hrel
    clear hmk O0 b0
    by_cases hlt : k < n
    · go_wp2_with (at_builtin; refine wpList_append_bfit rfl (.tmp 12) (.tmp 13) rfl w.heap.size w.heap.size k n _ rfl (rO.alloc _) wr.heap.size 1 48 rfl (by simp) (by omega) ?_; intro w' O3 g3)
      have O4 := Lib.hid (O3.congr (g := fun _ => 48) (fun j hj => by split <;> rfl))
      have hsz := rb.size
      have nb : Hid (Below w.heap.size w w') := Lib.hid ((rb.alloc hsz _).grown g3 (by simp; omega) (fun q hq => by cases hq; exact Nat.le_refl _))
      clear O3 g3 rO rb hsz
      go_wp2
      go_roundw
      case rel => exact ⟨k + 1, by omega, by go_num, rfl, O4.out, nb.out⟩
      case measure => simp [intOf]; omega
    · obtain rfl : n = k := by omega
      have hst := rO.text
      have HY : Hid (strF n (fun _ => 48) = zerS n) := Lib.hid rfl
      obtain ⟨y, hy⟩ : ∃ y, strF n (fun _ => 48) = y := ⟨_, rfl⟩
      rw [hy] at hst HY
      clear hy rO
      go_wp2
      go_ret
      exact ⟨ret_str HY.out, rb⟩
theorem ssRun_reg (s t x n : Nat) (w : World) (h : RegN s t x) (hn : n ≤ 600) :
    Calls Try.prog 13 #[.agg #[.int .i64 s, .int .i64 t, .int .i64 x], .int .i64 n] w fun e w' => e = .returned (.string (runS s t x n)) ∧ Below w.heap.size w w' := by
  have HR := Lib.hid (fun w => iRun_yes s t x n w h hn)
  obtain ⟨Y, hY⟩ : ∃ Y, runS s t x n = Y := ⟨_, rfl⟩
  rw [hY] at HR ⊢
  clear hY
  go_enter Try.func13, Try.ntmps13
  go_wp2_with fail
  refine (HR.out _).mono ?_
  rintro e w1 ⟨rfl, hb1⟩
  have b1 := below_then ((Below.refl w.heap.size w).alloc (Nat.le_refl _) (.cells #[.int .i64 s, .int .i64 t, .int .i64 x] 24)) (Nat.le_refl _) hb1
  go_wp2
  go_ret
  exact ⟨rfl, b1⟩
set_option maxHeartbeats 3200000 in
theorem fnScramble_walk (a0 : Option Addr) (len0 cap0 : Nat) (z0 : List Int) (w : World) (w0 : IsBytes w a0 len0 cap0 z0) :
    Calls Try.prog 3 #[.slice a0 len0 cap0] w fun e w' => e = .returned (.bool true) ∧ Below w.heap.size w w' := by
  by_cases hl0 : 1048576 < len0
  · go_enter Try.func3, Try.ntmps3
    go_wp2
    go_ret
    exact ⟨rfl, Below.refl _ _⟩
  go_enter Try.func3, Try.ntmps3
  go_wp2_with fail
  refine (drawScr_any a0 len0 cap0 z0 _ w0).mono ?_
  rintro e W1 ⟨z, S, T, X, rfl, hz, b1⟩
  clear w0
  have rW := RegAt.new W1 24 S T X
  have b1x := b1.alloc b1.size (.cells #[.int .i64 S, .int .i64 T, .int .i64 X] 24)
  have hI := fun w => iScr_any z S T X w (by omega)
  have hS := fun w => sScr_any z S T X w (by omega)
  by_cases hok : bitsB z = true ∧ regB S T X = true
  · obtain ⟨s, t, x, rfl, rfl, rfl, hR⟩ := RegN.of hok.2
    obtain ⟨ho, h6⟩ := bits_of2 hok.1
    rw [scr_yes hok.1 hR] at hI hS
    have hyo := runS_ok s t x z.size
    have hys := runS_size s t x z.size
    have HB := Lib.hid (fun w => iScr_any (addS z (runS s t x z.size)) s t x w (by rw [addS_size]; omega))
    rw [scr_yes (bitsMk (addS_ok _ _) (by rw [addS_size]; exact h6)) hR, addS_size, addS_twice ho hyo hys.symm] at HB
    have HZ := Lib.hid (fun w => iScr_any (zerS z.size) s t x w (by rw [zerS_size]; omega))
    rw [scr_yes (bitsMk (zerS_ok _) (by rw [zerS_size]; exact h6)) hR, zerS_size] at HZ
    have hzz := addS_zer hyo
    rw [hys] at hzz
    rw [hzz] at HZ
    have HSZ := Lib.hid (fun w => ssZeros_any z.size w (by omega))
    have HRN := Lib.hid (fun w => ssRun_reg s t x z.size w hR h6)
    have HX := Lib.hid (fun w => ssXor_any (addS z (runS s t x z.size)) z w (addS_ok _ _) ho (addS_size _ _) (by rw [addS_size]; omega))
    rw [addS_swap ho hyo hys.symm] at HX
    obtain ⟨K, hK⟩ : ∃ K, runS s t x z.size = K := ⟨_, rfl⟩
    rw [hK] at hI hS HB HZ HRN HX
    obtain ⟨E, hE⟩ : ∃ G, addS z K = G := ⟨_, rfl⟩
    rw [hE] at hI hS HB HX
    obtain ⟨O, hO⟩ : ∃ G, zerS z.size = G := ⟨_, rfl⟩
    rw [hO] at HZ HSZ
    have HI := Lib.hid hI
    have HS := Lib.hid hS
    obtain ⟨m0, m1, m2, ml⟩ := id rW
    clear hI hS hok ho hyo hys hR hzz hK hE hO
    go_wp2_with fail
    refine (HI.out _).mono ?_
    rintro e w2 ⟨rfl, hb2⟩
    have b2 := below_then b1x (Nat.le_refl _) hb2
    have r2 := rW.below hb2 rW.2.2.2
    clear m0 m1 m2 ml hb2 b1 b1x rW
    obtain ⟨m0, m1, m2, ml⟩ := id r2
    go_wp2_with fail
    refine (HS.out _).mono ?_
    rintro e w3 ⟨rfl, hb3⟩
    have b3 := below_then b2 (Nat.le_refl _) hb3
    have r3 := r2.below hb3 r2.2.2.2
    clear m0 m1 m2 ml hb3 b2 r2
    obtain ⟨m0, m1, m2, ml⟩ := id r3
    go_wp2_with fail
    refine (HB.out _).mono ?_
    rintro e w4 ⟨rfl, hb4⟩
    have b4 := below_then b3 (Nat.le_refl _) hb4
    have r4 := r3.below hb4 r3.2.2.2
    clear m0 m1 m2 ml hb4 b3 r3
    obtain ⟨bA, hbA⟩ : ∃ b, W1.heap.size = b := ⟨_, rfl⟩
    rw [hbA] at r4 ⊢
    clear hbA
    obtain ⟨m0, m1, m2, ml⟩ := id r4
    have n0 : w4.drew.cell? ⟨bA, 0, none⟩ = some (.int .i64 s) := m0
    have n1 : w4.drew.cell? ⟨bA, 1, none⟩ = some (.int .i64 t) := m1
    have n2 : w4.drew.cell? ⟨bA, 2, none⟩ = some (.int .i64 x) := m2
    have nl : bA < w4.drew.heap.size := ml
    have q0 := below_drew b4
    go_wp2_with fail
    go_region_held3 (fun wx => Below w.heap.size w wx ∧ wx.cell? ⟨bA, 0, none⟩ = some (.int .i64 s) ∧ wx.cell? ⟨bA, 1, none⟩ = some (.int .i64 t) ∧ wx.cell? ⟨bA, 2, none⟩ = some (.int .i64 x)) (first | exact ⟨q2, k20, k21, k22⟩ | exact ⟨q1, k10, k11, k12⟩ | exact ⟨q0, n0, n1, n2⟩) (first
      | (go_at_call 12; refine (HSZ.out _).mono ?_; rintro e w5 ⟨rfl, hB⟩; have q1 := below_then q0 (Nat.le_refl _) hB; have k10 := (hB.cell (p := ⟨bA, 0, none⟩) nl).trans n0; have k11 := (hB.cell (p := ⟨bA, 1, none⟩) nl).trans n1; have k12 := (hB.cell (p := ⟨bA, 2, none⟩) nl).trans n2; have l1 := Nat.lt_of_lt_of_le nl hB.size)
      | (go_at_call 10; refine (HZ.out _).mono ?_; rintro e w6 ⟨rfl, hB2⟩; have q2 := below_then q1 (Nat.le_refl _) hB2; have k20 := (hB2.cell (p := ⟨bA, 0, none⟩) l1).trans k10; have k21 := (hB2.cell (p := ⟨bA, 1, none⟩) l1).trans k11; have k22 := (hB2.cell (p := ⟨bA, 2, none⟩) l1).trans k12))
    all_goals
      clear n0 n1 n2 nl q0 m0 m1 m2 ml r4 b4 k10 k11 k12 q1
      go_wp2_with fail
      refine (HRN.out _).mono ?_
      rintro e w7 ⟨rfl, hB7⟩
      have q7 := below_then q2 (Nat.le_refl _) hB7
      clear hB7 q2 k20 k21 k22
      go_wp2_with fail
      refine (HX.out _).mono ?_
      rintro e w8 ⟨rfl, hB8⟩
      have q8 := below_then q7 (Nat.le_refl _) hB8
      clear hB8 q7
      go_wp2
      go_ret
      exact ⟨rfl, q8⟩
  · rw [scr_no hok] at hI hS
    have HI := Lib.hid hI
    have HS := Lib.hid hS
    obtain ⟨m0, m1, m2, ml⟩ := id rW
    clear hI hS hok
    go_wp2_with fail
    refine (HI.out _).mono ?_
    rintro e w2 ⟨rfl, hb2⟩
    have b2 := below_then b1x (Nat.le_refl _) hb2
    have r2 := rW.below hb2 rW.2.2.2
    clear m0 m1 m2 ml hb2 b1 b1x rW
    obtain ⟨m0, m1, m2, ml⟩ := id r2
    go_wp2_with fail
    refine (HS.out _).mono ?_
    rintro e w3 ⟨rfl, hb3⟩
    have b3 := below_then b2 (Nat.le_refl _) hb3
    clear m0 m1 m2 ml hb3 b2 r2
    go_wp2
    go_ret
    exact ⟨rfl, b3⟩
end Go.Proofs.Ytkpiloefmhhclaa
