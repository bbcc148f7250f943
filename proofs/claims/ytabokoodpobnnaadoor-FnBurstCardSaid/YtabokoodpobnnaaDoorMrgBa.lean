/- ScrambleBits, of both sides. Check bits and frames, of both sides. Frames of payloads, of both sides. -/
import Derived.Test.YtabokoodpobnnaaDoorRunBoth
import Derived.Test.YtabokoodpobnnaaDoorFrm2
import Derived.Test.YtabokoodpobnnaaDoorFrm0
import Derived.Test.YtabokoodpobnnaaDoorFam2
namespace Go.Proofs.YtabokoodpobnnaaDoor
open Go.RowKit Go.Shelf
set_option linter.unusedVariables false
set_option maxRecDepth 100000
theorem runS_ok (s t x n : Nat) : okB (runS s t x n) (runS s t x n).size = true := okB_of_zb _ fun i hi => by
  rw [runS_size] at hi
  unfold runS
  rw [zb_strF hi (by omega)]
  omega
/-- The answer of ScrambleBits. -/
def scrAns (z : ByteArray) (S T X : Int) : ByteArray × Bool := if bitsB z = true ∧ regB S T X = true then (addS z (runS S.toNat T.toNat X.toNat z.size), true) else noS
theorem scr_no {z : ByteArray} {S T X : Int} (h : ¬ (bitsB z = true ∧ regB S T X = true)) : scrAns z S T X = noS := by unfold scrAns; rw [if_neg h]
theorem scr_yes {z : ByteArray} {s t x : Nat} (h : bitsB z = true) (hR : RegN s t x) : scrAns z s t x = (addS z (runS s t x z.size), true) := by unfold scrAns; rw [if_pos ⟨h, hR.valid⟩]; rfl
theorem scr1_any (z y : ByteArray) (bx bk i : Nat) (w : World) (h0 : w.cell? ⟨bx, 0, none⟩ = some (.string z)) (h1 : w.cell? ⟨bk, 0, none⟩ = some (.string y)) (hz : okB z z.size = true) (hy : okB y y.size = true) (hs : z.size = y.size) (hi : i < z.size) :
    Calls Tryd.prog 81 #[.int .i64 i, .pointer (some ⟨bx, 0, none⟩), .pointer (some ⟨bk, 0, none⟩)] w fun e w' => e = .returned (.int .u8 (addB (zb z i) (zb y i) : Nat)) ∧ Below w.heap.size w w' := by
  have hiy : i < y.size := by omega
  have hb := fun w => bitSum_any (zb z i) (zb y i) w (okB_zb z hz i hi) (okB_zb y hy i hiy)
  obtain ⟨V, hV⟩ : ∃ V, addB (zb z i) (zb y i) = V := ⟨_, rfl⟩
  rw [hV, ← zb_at z i hi, ← zb_at y i hiy] at hb
  rw [hV]
  have i0 : (0 : Int) ≤ (i : Int) := by omega
  have i1 : (i : Int) < (z.size : Int) := by omega
  have i2 : (i : Int) < (y.size : Int) := by omega
  have HB := Lib.hid hb
  clear hb hV hz hy hs
  go_enter Tryd.func81, Tryd.ntmps81
  go_wp2_with fail
  go_quiet ((go_at_call 53; exact quiet_same (HB.out _)))
  go_wp2
  go_ret
  exact ⟨rfl, below_drewN (Below.refl _ _) _⟩
theorem iScr_any (z : ByteArray) (S T X : Int) (w : World) (hs : z.size ≤ 1048576) :
    Calls Tryd.prog 37 #[.string z, .agg #[.int .i64 S, .int .i64 T, .int .i64 X]] w fun e w' => e = .returned (.tuple #[.string (scrAns z S T X).1, .bool (scrAns z S T X).2]) ∧ Below w.heap.size w w' := by
  have HR := Lib.hid (fun w => iRun_any S T X (z.size : Int) w)
  have s1 : (w.alloc (.cells #[.string z] 9)).heap.size = w.heap.size + 1 := World.size_alloc _ _
  have s2 : ((w.alloc (.cells #[.string z] 9)).alloc (.cells #[.int .i64 S, .int .i64 T, .int .i64 X] 26)).heap.size = w.heap.size + 1 + 1 := by rw [World.size_alloc, s1]
  have b0 := ((Below.refl w.heap.size w).alloc (Nat.le_refl _) (.cells #[.string z] 9)).alloc (by omega) (.cells #[.int .i64 S, .int .i64 T, .int .i64 X] 26)
  have c0 := box_old (box_new w (.string z) 9) (by omega) (.cells #[.int .i64 S, .int .i64 T, .int .i64 X] 26)
  obtain ⟨W0, hW0⟩ : ∃ W, (w.alloc (.cells #[.string z] 9)).alloc (.cells #[.int .i64 S, .int .i64 T, .int .i64 X] 26) = W := ⟨_, rfl⟩
  rw [hW0] at b0 c0 s2
  have HW0 := Lib.hid hW0
  clear hW0 s1
  by_cases hr : regB S T X = true ∧ z.size ≤ 600
  · obtain ⟨s, t, x, rfl, rfl, rfl, hR⟩ := RegN.of hr.1
    rw [runAns_yes hR hr.2] at HR
    have HV := Lib.hid (fun w => bitsValid_any z w (by omega))
    cases hb : bitsB z with
    | false =>
      have HX := Lib.hid (scr_no (z := z) (S := s) (T := t) (X := x) (by rw [hb]; simp))
      rw [hb] at HV
      obtain ⟨K, hK⟩ : ∃ K, runS s t x z.size = K := ⟨_, rfl⟩
      rw [hK] at HR
      clear hK hb hr hR
      go_enter Tryd.func37, Tryd.ntmps37
      go_wp2_with fail
      rw [HW0.out]
      refine (HR.out _).mono ?_
      rintro e w1 ⟨rfl, hb1⟩
      have b1 := below_then b0 (by omega) hb1
      have c1 := box_kept c0 (by omega) hb1
      have hsz := hb1.size
      have c2 := box_old c1 (by omega) (.cells #[.string K] 9)
      have b2 := b1.alloc b1.size (.cells #[.string K] 9)
      clear hb1
      go_wp2_with fail
      refine (HV.out _).mono ?_
      rintro e w2 ⟨rfl, rfl⟩
      go_wp2
      go_ret2
      exact ⟨ret_sA HX.out, b2⟩
    | true =>
      have HX := Lib.hid (scr_yes hb hR)
      rw [hb] at HV
      have hy := runS_ok s t x z.size
      have hys := runS_size s t x z.size
      obtain ⟨K, hK⟩ : ∃ K, runS s t x z.size = K := ⟨_, rfl⟩
      rw [hK] at HR HX hy hys
      have HO := Lib.hid (bits_of2 hb).1
      have HY := Lib.hid hy
      clear hK hb hR hy
      go_enter Tryd.func37, Tryd.ntmps37
      go_wp2_with fail
      rw [HW0.out]
      refine (HR.out _).mono ?_
      rintro e w1 ⟨rfl, hb1⟩
      have b1 := below_then b0 (by omega) hb1
      have c1 := box_kept c0 (by omega) hb1
      have hsz := hb1.size
      have c2 := box_old c1 (by omega) (.cells #[.string K] 9)
      have c3 := box_new w1 (.string K) 9
      have b2 := b1.alloc b1.size (.cells #[.string K] 9)
      have s3 : (w1.alloc (.cells #[.string K] 9)).heap.size = w1.heap.size + 1 := World.size_alloc _ _
      have hcall : ∀ W, W = w1.alloc (.cells #[.string K] 9) → Calls Tryd.prog 80 #[.int .i64 z.size, .func (.func 81) #[] #[.pointer (some ⟨w.heap.size, 0, none⟩), .pointer (some ⟨w1.heap.size, 0, none⟩)]] W
          fun e w' => e = .returned (.string (addS z K)) ∧ Below W.heap.size W w' := fun W hW => by
        refine bitsOf_any z.size (fun i => addB (zb z i) (zb K i)) 81 _ W (by omega) (enters_of Tryd.func81 (by kernel_rfl) rfl) ?_
        intro V i hV hi
        subst hW
        exact scr1_any z K w.heap.size w1.heap.size i V (box_kept c2 (by omega) hV) (box_kept c3 (by omega) hV) HO.out HY.out hys.symm hi
      have HC := Lib.hid hcall
      clear hb1 hcall c3
      go_wp2_with fail
      refine (HV.out _).mono ?_
      rintro e w2 ⟨rfl, rfl⟩
      go_wp2_with fail
      refine (HC.out _ rfl).mono ?_
      rintro e w3 ⟨rfl, hb3⟩
      have b3 := below_then b2 (by omega) hb3
      clear hb3
      go_wp2
      go_ret2
      exact ⟨ret_sA HX.out, b3⟩
  · have HX := Lib.hid (scr_no (z := z) (S := S) (T := T) (X := X) (fun h => hr ⟨h.2, (bits_of2 h.1).2⟩))
    rw [runAns_no (fun h => hr ⟨h.1, by omega⟩)] at HR
    clear hr
    go_enter Tryd.func37, Tryd.ntmps37
    go_wp2_with fail
    rw [HW0.out]
    refine (HR.out _).mono ?_
    rintro e w1 ⟨rfl, hb1⟩
    have b1 := below_then b0 (by omega) hb1
    have b2 := b1.alloc b1.size (.cells #[.string ByteArray.empty] 9)
    clear hb1
    go_wp2
    go_ret2
    exact ⟨ret_sA HX.out, b2⟩
theorem sreg_valid (S T X : Int) (b : Bool) (w : World) (h : regB S T X = b) :
    Calls Tryd.prog 24 #[.agg #[.int .i64 S, .int .i64 T, .int .i64 X]] w fun e w' => e = .returned (.bool b) ∧ Below w.heap.size w w' := by
  rw [← h]; exact sRegisterValid_any _ _ _ w
theorem sScr_any (z : ByteArray) (S T X : Int) (w : World) (hs : z.size ≤ 1048576) :
    Calls Tryd.prog 26 #[.string z, .agg #[.int .i64 S, .int .i64 T, .int .i64 X]] w fun e w' => e = .returned (.tuple #[.string (scrAns z S T X).1, .bool (scrAns z S T X).2]) ∧ Below w.heap.size w w' := by
  have b0 : Below w.heap.size w (w.alloc (.cells #[.int .i64 S, .int .i64 T, .int .i64 X] 26)) := (Below.refl _ _).alloc (Nat.le_refl _) _
  have r0 := RegAt.new w 26 S T X
  have HV := Lib.hid (fun w => l1Bits_any z w (by omega))
  cases hb : bitsB z with
  | false =>
    have HX := Lib.hid (scr_no (z := z) (S := S) (T := T) (X := X) (by rw [hb]; simp))
    rw [hb] at HV
    clear hb
    go_enter Tryd.func26, Tryd.ntmps26
    go_wp2_with fail
    refine (HV.out _).mono ?_
    rintro e w1 ⟨rfl, rfl⟩
    go_wp2
    go_ret2
    exact ⟨ret_sA HX.out, b0⟩
  | true =>
    rw [hb] at HV
    obtain ⟨ho, h6⟩ := bits_of2 hb
    cases hv : regB S T X with
    | false =>
      have HX := Lib.hid (scr_no (z := z) (S := S) (T := T) (X := X) (by rw [hv]; simp))
      have HG := Lib.hid (fun w => sreg_valid S T X false w hv)
      obtain ⟨c0, c1, c2, cl⟩ := id r0
      clear hb hv r0
      go_enter Tryd.func26, Tryd.ntmps26
      go_wp2_with fail
      refine (HV.out _).mono ?_
      rintro e w1 ⟨rfl, rfl⟩
      go_wp2_with fail
      refine (HG.out _).mono ?_
      rintro e w1 ⟨rfl, hb1⟩
      have b1 := below_then b0 (Nat.le_refl _) hb1
      clear hb1 b0 c0 c1 c2 cl
      go_wp2
      go_ret2
      exact ⟨ret_sA HX.out, b1⟩
    | true =>
      have HG := Lib.hid (fun w => sreg_valid S T X true w hv)
      obtain ⟨s, t, x, rfl, rfl, rfl, hR⟩ := RegN.of hv
      have HX := Lib.hid (scr_yes hb hR)
      have HL := Lib.hid (fun w => l1Run_any s t x z.size w hR (by omega))
      have HA := Lib.hid (fun w => l2Add_big z (runS s t x z.size) w ho (runS_ok _ _ _ _) (runS_size _ _ _ _).symm (by omega))
      obtain ⟨K, hK⟩ : ∃ K, runS s t x z.size = K := ⟨_, rfl⟩
      rw [hK] at HL HX HA
      obtain ⟨c0, c1, c2, cl⟩ := id r0
      clear hb hv hR hK ho
      go_enter Tryd.func26, Tryd.ntmps26
      go_wp2_with fail
      refine (HV.out _).mono ?_
      rintro e w1 ⟨rfl, rfl⟩
      go_wp2_with fail
      refine (HG.out _).mono ?_
      rintro e w1 ⟨rfl, hb1⟩
      have b1 := below_then b0 (Nat.le_refl _) hb1
      clear c0 c1 c2 cl
      obtain ⟨c0, c1, c2, cl⟩ := r0.below hb1 (by simp)
      clear hb1 b0 r0
      go_wp2_with fail
      refine (HL.out _).mono ?_
      rintro e w2 ⟨rfl, hb2⟩
      have b2 := below_then b1 (Nat.le_refl _) hb2
      clear hb2 b1 c0 c1 c2 cl
      go_wp2_with fail
      refine (HA.out _).mono ?_
      rintro e w3 ⟨rfl, hb3⟩
      have b3 := below_then b2 (Nat.le_refl _) hb3
      clear hb3 b2
      go_wp2
      go_ret2
      exact ⟨ret_sA HX.out, b3⟩
end Go.Proofs.YtabokoodpobnnaaDoor
namespace Go.Proofs.YtabokoodpobnnaaDoor
open Go.RowKit
set_option linter.unusedVariables false
set_option maxRecDepth 100000
theorem bits_of {z : ByteArray} (h : bitsB z = true) : okB z z.size = true ∧ z.size ≤ 600 := by unfold bitsB at h; simp only [Bool.and_eq_true, decide_eq_true_eq] at h; exact h
theorem bits_zb {z : ByteArray} (h : bitsB z = true) {i : Nat} (hi : i < z.size) : zb z i = 48 ∨ zb z i = 49 := okB_zb z (bits_of h).1 i hi
/-- A step of the check bits. -/
def crcS (x b : Nat) : Nat := if (x / 128 + b) % 2 = 1 then (2 * x % 256) ^^^ 7 else 2 * x % 256
theorem crcS_lt (x b : Nat) : crcS x b < 256 := by
  unfold crcS
  split
  · exact Nat.xor_lt_two_pow (n := 8) (Nat.mod_lt _ (by decide)) (by decide)
  · exact Nat.mod_lt _ (by decide)
def crcF (f : Nat → Nat) : Nat → Nat
  | 0 => 0
  | k + 1 => crcS (crcF f k) (f k - 48)
theorem crcF_lt (f : Nat → Nat) : ∀ k, crcF f k < 256
  | 0 => by show 0 < 256; omega
  | k + 1 => crcS_lt _ _
def crcV (z : ByteArray) : ByteArray := digS (crcF (zb z) z.size) 8
theorem crcV_size (z : ByteArray) : (crcV z).size = 8 := digS_size _ _
def crcAns (z : ByteArray) : ByteArray × Bool := if bitsB z then (crcV z, true) else noS
theorem crcAns_yes {z : ByteArray} (h : bitsB z = true) : crcAns z = (crcV z, true) := by unfold crcAns; rw [if_pos h]
theorem crcAns_no {z : ByteArray} (h : bitsB z = false) : crcAns z = noS := by unfold crcAns; rw [if_neg (by rw [h]; decide)]
/-- The values of a step on the program's side. -/
theorem icrc_value (x b : Nat) (hx : x < 256) (hb : b < 2) : ∃ D T A C E : Nat, (x : Int) / 128 = D ∧ bits .xor .i64 (b : Int) (D : Int) = T ∧ (x : Int) * 2 = A ∧ bits .and .i64 (A : Int) 255 = C ∧ (T : Int) * 7 = E ∧ bits .xor .i64 (C : Int) (E : Int) = (crcS x b : Nat) ∧ A ≤ 512 ∧ E ≤ 7 := by
  refine ⟨x / 128, b ^^^ (x / 128), 2 * x, (2 * x) &&& 255, (b ^^^ (x / 128)) * 7, (Int.natCast_ediv x 128).symm, xor64 _ _ (by omega) (by omega), by omega, and64 (2 * x) 255 (by omega) (by omega), by omega, ?_, by omega, ?_⟩
  · have e1 : (2 * x) &&& 255 = 2 * x % 256 := Nat.and_two_pow_sub_one_eq_mod (2 * x) 8
    have hd : x / 128 < 2 := by omega
    have e2 : b ^^^ (x / 128) = (x / 128 + b) % 2 := by rw [xor_bit _ _ hb hd, Nat.add_comm]
    rw [e1, e2, xor64 _ _ (by omega) (by omega)]
    unfold crcS
    by_cases h : (x / 128 + b) % 2 = 1
    · rw [if_pos h, h]
    · rw [if_neg h, show (x / 128 + b) % 2 = 0 by omega]; simp
  · rw [xor_bit _ _ hb (by omega)]; omega
/-- The values of a step on the model's side. -/
theorem scrc_value (x b : Nat) (hx : x < 256) (hb : b < 2) : ∃ D T M : Nat, (x : Int) / 128 = D ∧ bits .xor .i64 (D : Int) (b : Int) = T ∧ (x : Int) * 2 % 256 = M ∧ M < 256 ∧ (T = 1 → bits .xor .i64 (M : Int) 7 = (crcS x b : Nat)) ∧ (¬ T = 1 → M = crcS x b) := by
  have hd : x / 128 < 2 := by omega
  refine ⟨x / 128, (x / 128 + b) % 2, 2 * x % 256, (Int.natCast_ediv x 128).symm, xor64_bit _ _ hd hb, by omega, by omega, ?_, ?_⟩
  · intro h
    have := xor64 (2 * x % 256) 7 (by omega) (by omega)
    unfold crcS
    rw [if_pos h]; exact this
  · intro h
    unfold crcS
    rw [if_neg h]
theorem iCrc_any (z : ByteArray) (w : World) (hs : z.size ≤ 1048576) :
    Calls Tryd.prog 70 #[.string z] w fun e w' => e = .returned (.tuple #[.string (crcAns z).1, .bool (crcAns z).2]) ∧ Below w.heap.size w w' := by
  have hv := fun w => bitsValid_any z w (by omega)
  cases hb : bitsB z with
  | false =>
    rw [hb] at hv
    have HX := Lib.hid (crcAns_no hb)
    clear hb
    go_enter Tryd.func70, Tryd.ntmps70
    go_wp2_with fail
    refine (hv _).mono ?_
    rintro e w1 ⟨rfl, rfl⟩
    go_wp2
    go_ret2
    exact ⟨ret_sAns HX.out, Below.refl _ _⟩
  | true =>
    rw [hb] at hv
    have HX := Lib.hid (crcAns_yes hb)
    have HB := Lib.hid (fun i (hi : i < z.size) => bits_zb hb hi)
    have h6 := (bits_of hb).2
    clear hb
    go_enter Tryd.func70, Tryd.ntmps70
    go_wp2_with fail
    refine (hv _).mono ?_
    rintro e w1 ⟨rfl, rfl⟩
    clear hv
    go_wp2
    go_loopw [4, 12] (fun x i wr => ∃ k : Nat, k ≤ z.size ∧ i = .int .i64 k ∧ x = .int .i64 (crcF (zb z) k : Nat) ∧ Below w.heap.size w wr) (fun _ i _ => z.size - (intOf i).toNat)
    case atStart => exact ⟨0, by omega, rfl, rfl, Below.refl _ _⟩
    case round =>
      obtain ⟨k, hk, rfl, rfl, rb⟩ := hrel
      by_cases hlt : k < z.size
      · obtain ⟨b, hb2, hbz⟩ := isBit _ (HB.out k hlt)
        have hnx : crcF (zb z) (k + 1) = crcS (crcF (zb z) k) b := by show crcS _ (zb z k - 48) = _; rw [hbz]; congr 1; omega
        have hx := crcF_lt (zb z) k
        obtain ⟨x, hxx⟩ : ∃ x, crcF (zb z) k = x := ⟨_, rfl⟩
        rw [hxx] at hnx hx ⊢
        obtain ⟨D, T, A, C, E, v1, v2, v3, v4, v5, v6, v7, v8⟩ := icrc_value x b hx hb2
        have v0 : IntKind.u8.wrap ((z[k].toNat : Int) - 48) = (b : Int) := by rw [zb_at z k hlt, hbz, show ((48 + b : Nat) : Int) - 48 = (b : Int) by omega]; exact IntWalk.u8_in _ (by omega)
        have i0 : (0 : Int) ≤ (k : Int) := by omega
        have i1 : (k : Int) < (z.size : Int) := by omega
        have HN := Lib.hid hnx
        obtain ⟨R, hR⟩ : ∃ R, crcS x b = R := ⟨_, rfl⟩
        rw [hR] at v6 hnx
        have HR := Lib.hid hnx
        clear hnx hR hxx hbz HN
        go_wp2
        clear v0 v1 v2 v3 v4 v5 v6
        go_roundw
        case rel => exact ⟨k + 1, by omega, by go_num, by rw [HR.out], rb⟩
        case measure => simp [intOf]; omega
      · obtain rfl : k = z.size := by omega
        have hx := crcF_lt (zb z) z.size
        have hD := fun w => digitsOf_any (crcF (zb z) z.size) 8 w (by omega) (by omega)
        obtain ⟨x, hxx⟩ : ∃ x, crcF (zb z) z.size = x := ⟨_, rfl⟩
        rw [hxx] at hx hD ⊢
        have HXX := Lib.hid hxx
        clear hxx
        go_wp2_with fail
        refine (hD _).mono ?_
        rintro e w1 ⟨rfl, hb1⟩
        have b1 := below_then rb (Nat.le_refl _) hb1
        clear hb1 rb hD
        go_wp2
        go_ret2
        exact ⟨ret_sAns (by rw [HX.out]; unfold crcV; rw [HXX.out]), b1⟩
theorem digS_cons (n k : Nat) : strF 1 (fun _ => 48 + n / tw k % 2) ++ digS n k = digS n (k + 1) := by
  apply strF_of
  · rw [ByteArray.size_append, strF_size, digS_size]; omega
  · intro i hi
    by_cases h : i < 1
    · obtain rfl : i = 0 := by omega
      rw [zb_append_left _ _ _ (by rw [strF_size]; omega), zb_strF (by omega) (by omega)]
      show _ = 48 + n / tw (k + 1 - 1 - 0) % 2
      rw [show k + 1 - 1 - 0 = k by omega]
    · rw [zb_append_right _ _ _ (by rw [strF_size]; omega) (by rw [strF_size, digS_size]; omega), strF_size]
      unfold digS
      rw [zb_strF (by omega) (digF_lt _ _ _)]
      show 48 + n / tw (k - 1 - (i - 1)) % 2 = 48 + n / tw (k + 1 - 1 - i) % 2
      rw [show k - 1 - (i - 1) = k + 1 - 1 - i by omega]
theorem l6Binary_any (n c : Nat) (w : World) (hn : n ≤ 1152921504606846976) (hc : c ≤ 60) :
    Calls Tryd.prog 90 #[.int .i64 n, .int .i64 c] w fun e w' => e = .returned (.string (digS n c)) ∧ Below w.heap.size w w' := by
  go_enter Tryd.func90, Tryd.ntmps90
  go_wp2
  go_loopw [0, 5, 6] (fun x s i wr => ∃ k : Nat, k ≤ c ∧ i = .int .i64 k ∧ x = .int .i64 (n / tw k : Nat) ∧ s = .string (digS n k) ∧ Below w.heap.size w wr) (fun _ _ i _ => c - (intOf i).toNat)
  case atStart => exact ⟨0, by omega, rfl, by simp [tw], rfl, Below.refl _ _⟩
  case round =>
    obtain ⟨k, hk, rfl, rfl, rfl, rb⟩ := hrel
    by_cases hlt : k < c
    · have hs := digS_cons n k
      have hX2 : n / tw (k + 1) = n / tw k / 2 := by rw [Nat.div_div_eq_div_mul, show tw (k + 1) = tw k * 2 from Nat.pow_succ 2 k]
      have hXn := Nat.div_le_self n (tw k)
      have hz := digS_size n k
      have hz1 := strF_size 1 (fun _ => 48 + n / tw k % 2)
      obtain ⟨X, hX⟩ : ∃ X, n / tw k = X := ⟨_, rfl⟩
      rw [hX] at hs hX2 hXn hz1 ⊢
      have hL := fun w => l9Dec_bit (X % 2) w (by omega)
      obtain ⟨y, hy⟩ : ∃ y, strF 1 (fun _ => 48 + X % 2) = y := ⟨_, rfl⟩
      obtain ⟨S, hS⟩ : ∃ S, digS n k = S := ⟨_, rfl⟩
      rw [hy] at hs hz1 hL
      rw [hS] at hs hz ⊢
      have v1 : (X : Int) % 2 = ((X % 2 : Nat) : Int) := by omega
      obtain ⟨B, hB⟩ : ∃ B, X % 2 = B := ⟨_, rfl⟩
      rw [hB] at v1 hL
      have HS := Lib.hid hs
      have H2 := Lib.hid hX2
      clear hs hX2 hX hy hS hB
      go_wp2_with fail
      refine (hL _).mono ?_
      rintro e w1 ⟨rfl, hb1⟩
      have b1 := below_then rb (Nat.le_refl _) hb1
      clear hb1 rb hL v1
      go_wp2
      go_roundw
      case rel => exact ⟨k + 1, by omega, by go_num, by rw [H2.out]; go_num, by rw [HS.out], b1⟩
      case measure => simp [intOf]; omega
    · obtain rfl : k = c := by omega
      go_wp2
      go_ret
      exact ⟨rfl, rb⟩
theorem l6Crc_any (z : ByteArray) (w : World) (hb : okB z z.size = true) (hs : z.size ≤ 1048576) :
    Calls Tryd.prog 91 #[.string z] w fun e w' => e = .returned (.string (crcV z)) ∧ Below w.heap.size w w' := by
  have HB := Lib.hid (okB_zb z hb)
  clear hb
  go_enter Tryd.func91, Tryd.ntmps91
  go_wp2
  go_loopw [3, 4] (fun x i wr => ∃ k : Nat, k ≤ z.size ∧ i = .int .i64 k ∧ x = .int .i64 (crcF (zb z) k : Nat) ∧ Below w.heap.size w wr) (fun _ i _ => z.size - (intOf i).toNat)
  case atStart => exact ⟨0, by omega, rfl, rfl, Below.refl _ _⟩
  case round =>
    obtain ⟨k, hk, rfl, rfl, rb⟩ := hrel
    by_cases hlt : k < z.size
    · obtain ⟨b, hb2, hbz⟩ := isBit _ (HB.out k hlt)
      have hnx : crcF (zb z) (k + 1) = crcS (crcF (zb z) k) b := by show crcS _ (zb z k - 48) = _; rw [hbz]; congr 1; omega
      have hx := crcF_lt (zb z) k
      obtain ⟨x, hxx⟩ : ∃ x, crcF (zb z) k = x := ⟨_, rfl⟩
      rw [hxx] at hnx hx ⊢
      obtain ⟨D, T, M, v1, v2, v3, v4, v5, v6⟩ := scrc_value x b hx hb2
      have v0 : (z[k].toNat : Int) - 48 = (b : Int) := by rw [zb_at z k hlt, hbz]; omega
      have i0 : (0 : Int) ≤ (k : Int) := by omega
      have i1 : (k : Int) < (z.size : Int) := by omega
      by_cases hT : T = 1
      · subst hT
        have v7 := v5 rfl
        rw [← hnx] at v7
        obtain ⟨R, hR⟩ : ∃ R, crcF (zb z) (k + 1) = R := ⟨_, rfl⟩
        rw [hR] at v7
        have HR := Lib.hid hR
        clear hnx hR hxx hbz v5 v6
        go_wp2
        clear v0 v1 v2 v3 v7
        go_roundw
        case rel => exact ⟨k + 1, by omega, by go_num, by rw [HR.out], rb⟩
        case measure => simp [intOf]; omega
      · have v7 := v6 hT
        rw [← hnx] at v7
        have HR := Lib.hid v7
        have HV := Lib.hid v3
        obtain ⟨t1, t2⟩ : ((T : Int) == 1) = false ∧ ((T : Int) != 1) = true := by constructor <;> simp <;> omega
        clear hnx v7 hxx hbz v5 v6 hT
        go_wp2
        clear v0 v1 v2 v3 t1 t2
        go_roundw
        case rel => exact ⟨k + 1, by omega, by go_num, by rw [← HR.out, ← HV.out], rb⟩
        case measure => simp [intOf]; omega
    · obtain rfl : k = z.size := by omega
      have hx := crcF_lt (zb z) z.size
      have hD := fun w => l6Binary_any (crcF (zb z) z.size) 8 w (by omega) (by omega)
      obtain ⟨x, hxx⟩ : ∃ x, crcF (zb z) z.size = x := ⟨_, rfl⟩
      rw [hxx] at hx hD ⊢
      have HXX := Lib.hid hxx
      clear hxx
      go_wp2_with fail
      refine (hD _).mono ?_
      rintro e w1 ⟨rfl, hb1⟩
      have b1 := below_then rb (Nat.le_refl _) hb1
      clear hb1 rb hD
      go_wp2
      go_ret
      exact ⟨ret_str (by unfold crcV; rw [HXX.out]), b1⟩
end Go.Proofs.YtabokoodpobnnaaDoor
namespace Go.Proofs.YtabokoodpobnnaaDoor
open Go.RowKit
set_option linter.unusedVariables false
set_option maxRecDepth 100000
theorem ok_append {a b : ByteArray} (ha : okB a a.size = true) (hb : okB b b.size = true) : okB (a ++ b) (a ++ b).size = true := okB_of_zb _ fun i hi => by
  rw [ByteArray.size_append] at hi
  by_cases h : i < a.size
  · rw [zb_append_left _ _ _ h]; exact okB_zb a ha i h
  · rw [zb_append_right _ _ _ (by omega) hi]; exact okB_zb b hb _ (by omega)
theorem digS_ok (n c : Nat) : okB (digS n c) (digS n c).size = true := okB_of_zb _ fun i hi => by
  rw [digS_size] at hi
  unfold digS
  rw [zb_strF hi (digF_lt _ _ _)]
  unfold digF; omega
theorem bits_mk {z : ByteArray} (h : okB z z.size = true) (h6 : z.size ≤ 600) : bitsB z = true := by unfold bitsB; rw [h, decide_eq_true h6]; rfl
/-- The inner bits, and the frame. -/
def innS (z : ByteArray) : ByteArray := digS z.size 7 ++ z
theorem innS_size (z : ByteArray) : (innS z).size = 7 + z.size := by unfold innS; rw [ByteArray.size_append, digS_size]
theorem innS_ok {z : ByteArray} (h : okB z z.size = true) : okB (innS z) (innS z).size = true := ok_append (digS_ok _ _) h
def frmS (z : ByteArray) : ByteArray := (⟨#[49, 49, 49, 48, 49, 48, 48, 48]⟩ ++ innS z) ++ crcV (innS z)
theorem frmS_size (z : ByteArray) : (frmS z).size = 23 + z.size := by
  unfold frmS
  rw [ByteArray.size_append, ByteArray.size_append, innS_size, crcV_size]
  show 8 + (7 + z.size) + 8 = _; omega
theorem crcV_ok (z : ByteArray) : okB (crcV z) (crcV z).size = true := digS_ok _ _
theorem frmS_ok {z : ByteArray} (h : okB z z.size = true) : okB (frmS z) (frmS z).size = true := ok_append (ok_append (by decide) (innS_ok h)) (crcV_ok _)
def payB (z : ByteArray) : Bool := bitsB z && decide (z.size ≤ 100)
theorem payB_iff (z : ByteArray) : payB z = true ↔ bitsB z = true ∧ z.size ≤ 100 := by unfold payB; rw [Bool.and_eq_true, decide_eq_true_eq]
def frmAns (z : ByteArray) : ByteArray × Bool := if payB z then (frmS z, true) else noS
theorem iFrame_yes (z : ByteArray) (w : World) (h : payB z = true) :
    Calls Tryd.prog 30 #[.string z] w fun e w' => e = .returned (.tuple #[.string (frmS z), .bool true]) ∧ Below w.heap.size w w' := by
  obtain ⟨hb, h1⟩ := (payB_iff z).1 h
  have HV := Lib.hid (fun w => bitsValid_any z w (by omega))
  rw [hb] at HV
  have g1 : ¬ (100 : Int) < (z.size : Int) := by omega
  have HD := Lib.hid (fun w => digitsOf_any z.size 7 w (by omega) (by omega))
  have hd := digS_size z.size 7
  have hi := innS_ok (bits_of hb).1
  have his := innS_size z
  have hC := fun w => iCrc_any (innS z) w (by omega)
  rw [crcAns_yes (bits_mk hi (by omega))] at hC
  have hcs := crcV_size (innS z)
  have hF : Hid (frmS z = (⟨#[49, 49, 49, 48, 49, 48, 48, 48]⟩ ++ innS z) ++ crcV (innS z)) := Lib.hid rfl
  have hI : innS z = digS z.size 7 ++ z := rfl
  obtain ⟨V, hV⟩ : ∃ V, crcV (innS z) = V := ⟨_, rfl⟩
  rw [hV] at hC hcs hF
  rw [hI] at hC his hF
  obtain ⟨Y, hY⟩ : ∃ V, digS z.size 7 = V := ⟨_, rfl⟩
  rw [hY] at hC HD hF hd his
  have q1 : Y.size + z.size ≤ 9223372036854775807 := by omega
  have HC := Lib.hid hC
  clear hb h hi hV hI hY hC
  go_enter Tryd.func30, Tryd.ntmps30
  go_wp2_with fail
  refine (HV.out _).mono ?_
  rintro e w1 ⟨rfl, rfl⟩
  go_wp2_with fail
  refine (HD.out _).mono ?_
  rintro e w1 ⟨rfl, b1⟩
  go_wp2_with fail
  refine (HC.out _).mono ?_
  rintro e w2 ⟨rfl, b2'⟩
  have b2 := below_then b1 (Nat.le_refl _) b2'
  clear b1 b2'
  go_wp2
  go_ret2
  exact ⟨ret_sb hF.out.symm, b2⟩
theorem iFrame_any (z : ByteArray) (w : World) (hs : z.size ≤ 1048576) :
    Calls Tryd.prog 30 #[.string z] w fun e w' => e = .returned (.tuple #[.string (frmAns z).1, .bool (frmAns z).2]) ∧ Below w.heap.size w w' := by
  cases h : payB z with
  | true =>
    have HX : Hid (frmAns z = (frmS z, true)) := Lib.hid (by unfold frmAns; rw [h]; rfl)
    refine (iFrame_yes z w h).mono ?_
    rintro e w' ⟨rfl, hb⟩
    exact ⟨ret_sA HX.out, hb⟩
  | false =>
    have HX : Hid (frmAns z = noS) := Lib.hid (by unfold frmAns; rw [h]; rfl)
    have HV := Lib.hid (fun w => bitsValid_any z w (by omega))
    cases hb : bitsB z with
    | false =>
      rw [hb] at HV
      clear hb h
      go_enter Tryd.func30, Tryd.ntmps30
      go_wp2_with fail
      refine (HV.out _).mono ?_
      rintro e w1 ⟨rfl, rfl⟩
      go_wp2
      go_ret2
      exact ⟨ret_sA HX.out, Below.refl _ _⟩
    | true =>
      have h1 : ¬ z.size ≤ 100 := fun h1 => by rw [(payB_iff z).2 ⟨hb, h1⟩] at h; cases h
      have g1 : (100 : Int) < (z.size : Int) := by omega
      rw [hb] at HV
      clear hb h h1
      go_enter Tryd.func30, Tryd.ntmps30
      go_wp2_with fail
      refine (HV.out _).mono ?_
      rintro e w1 ⟨rfl, rfl⟩
      go_wp2
      go_ret2
      exact ⟨ret_sA HX.out, Below.refl _ _⟩
theorem sFrm_any (z : ByteArray) (w : World) (ho : okB z z.size = true) (hs : z.size ≤ 600) :
    Calls Tryd.prog 63 #[.string z] w fun e w' => e = .returned (.string (frmS z)) ∧ Below w.heap.size w w' := by
  have HD := Lib.hid (fun w => l6Binary_any z.size 7 w (by omega) (by omega))
  have hd := digS_size z.size 7
  have hi := innS_ok ho
  have his := innS_size z
  have hC := fun w => l6Crc_any (innS z) w hi (by omega)
  have hcs := crcV_size (innS z)
  have hF : Hid (frmS z = (⟨#[49, 49, 49, 48, 49, 48, 48, 48]⟩ ++ innS z) ++ crcV (innS z)) := Lib.hid rfl
  have hI : innS z = digS z.size 7 ++ z := rfl
  obtain ⟨V, hV⟩ : ∃ V, crcV (innS z) = V := ⟨_, rfl⟩
  rw [hV] at hC hcs hF
  rw [hI] at hC his hF
  obtain ⟨Y, hY⟩ : ∃ V, digS z.size 7 = V := ⟨_, rfl⟩
  rw [hY] at hC HD hF hd his
  have q1 : Y.size + z.size ≤ 9223372036854775807 := by omega
  have HC := Lib.hid hC
  clear hi hV hI hY hC ho
  go_enter Tryd.func63, Tryd.ntmps63
  go_wp2_with fail
  refine (HD.out _).mono ?_
  rintro e w1 ⟨rfl, b1⟩
  go_wp2_with fail
  refine (HC.out _).mono ?_
  rintro e w2 ⟨rfl, b2'⟩
  have b2 := below_then b1 (Nat.le_refl _) b2'
  clear b1 b2'
  go_wp2
  go_ret
  exact ⟨ret_str hF.out.symm, b2⟩
theorem sPay_any (z : ByteArray) (w : World) (hs : z.size ≤ 1048576) :
    Calls Tryd.prog 62 #[.string z] w fun e w' => e = .returned (.bool (payB z)) ∧ w = w' := by
  have HV := Lib.hid (fun w => l1Bits_any z w (by omega))
  cases hb : bitsB z with
  | false =>
    have HX : Hid (false = payB z) := Lib.hid (by unfold payB; rw [hb]; rfl)
    rw [hb] at HV
    clear hb
    go_enter Tryd.func62, Tryd.ntmps62
    go_wp2_with fail
    refine (HV.out _).mono ?_
    rintro e w1 ⟨rfl, rfl⟩
    go_wp2
    go_ret
    exact ⟨ret_bool HX.out, rfl⟩
  | true =>
    have HX : Hid (decide ((z.size : Int) ≤ 100) = payB z) := Lib.hid (by unfold payB; rw [hb, Bool.true_and, Bool.eq_iff_iff]; simp; omega)
    rw [hb] at HV
    clear hb
    go_enter Tryd.func62, Tryd.ntmps62
    go_wp2_with fail
    refine (HV.out _).mono ?_
    rintro e w1 ⟨rfl, rfl⟩
    go_wp2
    go_ret
    exact ⟨ret_bool HX.out, rfl⟩
theorem sFrame_any (z : ByteArray) (w : World) (hs : z.size ≤ 1048576) :
    Calls Tryd.prog 22 #[.string z] w fun e w' => e = .returned (.tuple #[.string (frmAns z).1, .bool (frmAns z).2]) ∧ Below w.heap.size w w' := by
  have HP := Lib.hid (fun w => sPay_any z w hs)
  cases h : payB z with
  | true =>
    have HX : Hid (frmAns z = (frmS z, true)) := Lib.hid (by unfold frmAns; rw [h]; rfl)
    obtain ⟨hb, h1⟩ := (payB_iff z).1 h
    have HF := Lib.hid (fun w => sFrm_any z w (bits_of hb).1 (by omega))
    rw [h] at HP
    clear h hb
    go_enter Tryd.func22, Tryd.ntmps22
    go_wp2_with fail
    refine (HP.out _).mono ?_
    rintro e w1 ⟨rfl, rfl⟩
    go_wp2_with fail
    refine (HF.out _).mono ?_
    rintro e w1 ⟨rfl, b1⟩
    go_wp2
    go_ret2
    exact ⟨ret_sA HX.out, b1⟩
  | false =>
    have HX : Hid (frmAns z = noS) := Lib.hid (by unfold frmAns; rw [h]; rfl)
    rw [h] at HP
    clear h
    go_enter Tryd.func22, Tryd.ntmps22
    go_wp2_with fail
    refine (HP.out _).mono ?_
    rintro e w1 ⟨rfl, rfl⟩
    go_wp2
    go_ret2
    exact ⟨ret_sA HX.out, Below.refl _ _⟩
end Go.Proofs.YtabokoodpobnnaaDoor
