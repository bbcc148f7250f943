/- blockOf of the program (by mkfrm17.py). HammingEncode of the program. ProtectPayload: what both sides answer; the walk of the law FnExactProtectPayload. ssZeros: a string of zeros. The walk of the law FnFrame. Plain mathematics of bursts: as many wrong bits one behind the other as there are rows lie in different blocks, and are corrected. Contracts of the draws for steps back and jumps. The draw for jumps. Contracts of the draws of a register and of a count: l1Open, l1Count, DrawRunRegister. The draw of ProtectPayload. The walk of the law FnBurst. -/
import Derived.Test.YtabokoodpobnnaaDoorFrm16
import Derived.Test.YtabokoodpobnnaaDoorFrm19
import Derived.Test.YtabokoodpobnnaaDoorOrd
import Derived.Test.YtabokoodpobnnaaDoorFrm3
import Derived.Test.YtabokoodpobnnaaDoorMrgBa
import Derived.Test.YtabokoodpobnnaaDoorMrgC
import Derived.Test.YtabokoodpobnnaaDoorRepLay
import Derived.Test.YtabokoodpobnnaaDoorSsStr
import Derived.Test.YtabokoodpobnnaaDoorMrgBb
import Derived.Test.YtabokoodpobnnaaDoorMrgBc
import Derived.Test.YtabokoodpobnnaaDoorDraw2
import Derived.Deep.RegionHeld3
import Derived.Deep.RegionWith
namespace Go.Proofs.YtabokoodpobnnaaDoor
open Go.RowKit Go.Shelf
set_option linter.unusedVariables false
set_option maxRecDepth 100000
theorem rowP_next (q : Nat → Nat) (V j k : Nat) (h : (j = 0 ∧ k = 2) ∨ (j = 1 ∧ k = 4) ∨ (j = 2 ∧ k = 5) ∨ (j = 3 ∧ k = 6)) (hV : V = q j) (i : Nat) (hi : i < 7) : (if i = k then V else rowP q j i) = rowP q (j + 1) i := by
  subst hV
  have h7 : i = 0 ∨ i = 1 ∨ i = 2 ∨ i = 3 ∨ i = 4 ∨ i = 5 ∨ i = 6 := by omega
  rcases h with ⟨rfl, rfl⟩ | ⟨rfl, rfl⟩ | ⟨rfl, rfl⟩ | ⟨rfl, rfl⟩ <;> rcases h7 with rfl | rfl | rfl | rfl | rfl | rfl | rfl <;> simp [rowP]
theorem nought_row : ∀ i, i < 7 → zb ⟨#[48, 48, 48, 48, 48, 48, 48]⟩ i = rowP (fun _ => 48) 0 i := by decide +kernel
set_option maxHeartbeats 1600000 in
theorem blockOf_any (z : ByteArray) (w : World) (h4 : z.size = 4) (ho : okB z z.size = true) (hp : PlacesAt w) (h0 : 0 < w.heap.size) :
    Calls Tryd.prog 57 #[.string z] w (BlkOf w z) := by
  have hbit : ∀ i, i < 4 → zb z i = 48 ∨ zb z i = 49 := fun i hi => okB_zb z ho i (by omega)
  obtain ⟨hS8, ha1, ha2, ha4⟩ := syn_and (zb z) hbit
  obtain ⟨W1, c, hcv, hfr, hB1, hR⟩ := conv_row w ⟨#[48, 48, 48, 48, 48, 48, 48]⟩ rfl
  have hH : RowH W1 w.heap.size (rowP (zb z) 0) := ⟨hR.congr (fun i hi => by rw [nought_row i hi]; simp [rowP]), hfr⟩
  obtain ⟨p0, p1, p2, p3⟩ := PlacesAt.below hp h0 hB1
  obtain ⟨g, hg⟩ : ∃ g, w.heap.size = g := ⟨_, rfl⟩
  rw [hg] at hcv hH
  have HH := Lib.hid hH
  have HB1 := Lib.hid hB1
  have HG := Lib.hid hg
  have HR7 := Lib.hid rep0_any
  have z0 : z[0].toNat = zb z 0 := zb_at z 0 (by omega)
  have z1 : z[1].toNat = zb z 1 := zb_at z 1 (by omega)
  have z2 : z[2].toNat = zb z 2 := zb_at z 2 (by omega)
  have z3 : z[3].toNat = zb z 3 := zb_at z 3 (by omega)
  have HZ0 := Lib.hid z0
  have HZ1 := Lib.hid z1
  have HZ2 := Lib.hid z2
  have HZ3 := Lib.hid z3
  have HA1 := Lib.hid ha1
  have HA2 := Lib.hid ha2
  have HA4 := Lib.hid ha4
  clear hR hfr hB1 hH hg ho hbit ha1 ha2 ha4 hp h0 z0 z1 z2 z3
  go_enter Tryd.func57, Tryd.ntmps57
  go_wp2_with fail
  refine (HR7.out _).mono ?_
  rintro e w1 ⟨rfl, rfl⟩
  go_wp2
  go_loopw [11] (fun i wr => ∃ j : Nat, j ≤ 4 ∧ i = .int .i64 j ∧ RowH wr g (rowP (zb z) j) ∧ Below w.heap.size w wr) (fun i _ => 4 - (intOf i).toNat)
  case atStart => exact ⟨0, by omega, rfl, HH.out, HB1.out⟩
  case round =>
    clear hcv p0 p1 p2 p3
    obtain ⟨j, hj, rfl, rH, rb⟩ := hrel
    by_cases hj4 : j < 4
    · rcases (by omega : j = 0 ∨ j = 1 ∨ j = 2 ∨ j = 3) with rfl | rfl | rfl | rfl
      · have cX := rH.1.2.1 2 (by omega)
        have fX := rH.2 2 (by omega)
        have hix : ∀ W : World, (Instr.index 56 (.agg #[.int .i64 3, .int .i64 5, .int .i64 6, .int .i64 7]) (.int .i64 0)).run Tryd.prog W = .ok (.int .i64 3) W := fun W => places_at W 0 3 (by omega)
        have H2 := Lib.hid (rH.set (k := 2) (by omega) (rowP_next (zb z) _ 0 2 (by omega) HZ0.out))
        have b2 := bytes_below rb (Nat.le_of_eq HG.out) 2 (.int .u8 (z[0].toNat : Nat))
        obtain ⟨X, hX⟩ : ∃ X, rowP (zb z) 0 2 = X := ⟨_, rfl⟩
        rw [hX] at cX
        clear hX hj hj4 rH rb
        go_wp2
        go_roundw
        case rel => exact ⟨1, by omega, by go_num, H2.out, b2⟩
        case measure => simp [intOf]
      · have cX := rH.1.2.1 4 (by omega)
        have fX := rH.2 4 (by omega)
        have hix : ∀ W : World, (Instr.index 56 (.agg #[.int .i64 3, .int .i64 5, .int .i64 6, .int .i64 7]) (.int .i64 1)).run Tryd.prog W = .ok (.int .i64 5) W := fun W => places_at W 1 5 (by omega)
        have H2 := Lib.hid (rH.set (k := 4) (by omega) (rowP_next (zb z) _ 1 4 (by omega) HZ1.out))
        have b2 := bytes_below rb (Nat.le_of_eq HG.out) 4 (.int .u8 (z[1].toNat : Nat))
        obtain ⟨X, hX⟩ : ∃ X, rowP (zb z) 1 4 = X := ⟨_, rfl⟩
        rw [hX] at cX
        clear hX hj hj4 rH rb
        go_wp2
        go_roundw
        case rel => exact ⟨2, by omega, by go_num, H2.out, b2⟩
        case measure => simp [intOf]
      · have cX := rH.1.2.1 5 (by omega)
        have fX := rH.2 5 (by omega)
        have hix : ∀ W : World, (Instr.index 56 (.agg #[.int .i64 3, .int .i64 5, .int .i64 6, .int .i64 7]) (.int .i64 2)).run Tryd.prog W = .ok (.int .i64 6) W := fun W => places_at W 2 6 (by omega)
        have H2 := Lib.hid (rH.set (k := 5) (by omega) (rowP_next (zb z) _ 2 5 (by omega) HZ2.out))
        have b2 := bytes_below rb (Nat.le_of_eq HG.out) 5 (.int .u8 (z[2].toNat : Nat))
        obtain ⟨X, hX⟩ : ∃ X, rowP (zb z) 2 5 = X := ⟨_, rfl⟩
        rw [hX] at cX
        clear hX hj hj4 rH rb
        go_wp2
        go_roundw
        case rel => exact ⟨3, by omega, by go_num, H2.out, b2⟩
        case measure => simp [intOf]
      · have cX := rH.1.2.1 6 (by omega)
        have fX := rH.2 6 (by omega)
        have hix : ∀ W : World, (Instr.index 56 (.agg #[.int .i64 3, .int .i64 5, .int .i64 6, .int .i64 7]) (.int .i64 3)).run Tryd.prog W = .ok (.int .i64 7) W := fun W => places_at W 3 7 (by omega)
        have H2 := Lib.hid (rH.set (k := 6) (by omega) (rowP_next (zb z) _ 3 6 (by omega) HZ3.out))
        have b2 := bytes_below rb (Nat.le_of_eq HG.out) 6 (.int .u8 (z[3].toNat : Nat))
        obtain ⟨X, hX⟩ : ∃ X, rowP (zb z) 3 6 = X := ⟨_, rfl⟩
        rw [hX] at cX
        clear hX hj hj4 rH rb
        go_wp2
        go_roundw
        case rel => exact ⟨4, by omega, by go_num, H2.out, b2⟩
        case measure => simp [intOf]
    · obtain rfl : j = 4 := by omega
      have hS := syn_any g 0 c (rowP (zb z) 4) wr (fun i hi => by rw [Nat.zero_add]; exact rH.1.2.1 i hi)
      have H0 : Hid (RowH wr g (rowQ (zb z) 0)) := Lib.hid ⟨rH.1.congr (fun i hi => by simp [rowQ]), rH.2⟩
      have RB := Lib.hid rb
      obtain ⟨S, hSS⟩ : ∃ S, synF (rowP (zb z) 4) 7 = S := ⟨_, rfl⟩
      rw [hSS] at hS HA1 HA2 HA4
      have HS := Lib.hid hS
      clear hj hj4 rH rb hS hSS hS8
      go_wp2_with fail
      refine HS.out.mono ?_
      rintro e w1 ⟨rfl, rfl⟩
      go_wp2
      go_loopw [7] (fun i wr => ∃ m p : Nat, ((m = 0 ∧ p = 1) ∨ (m = 1 ∧ p = 2) ∨ (m = 2 ∧ p = 4) ∨ (m = 3 ∧ p = 8)) ∧ i = .int .i64 p ∧ RowH wr g (rowQ (zb z) m) ∧ Below w.heap.size w wr) (fun i _ => 8 - (intOf i).toNat)
      case atStart => exact ⟨0, 1, .inl ⟨rfl, rfl⟩, rfl, H0.out, RB.out⟩
      case round =>
        clear HS H0 RB
        obtain ⟨m, p, hm, rfl, rH, rb⟩ := hrel
        rcases hm with ⟨rfl, rfl⟩ | ⟨rfl, rfl⟩ | ⟨rfl, rfl⟩ | ⟨rfl, rfl⟩
        · have hA := HA1.out
          by_cases hck : ck3 (zb z 0) (zb z 1) (zb z 3) = 49
          · rw [if_pos hck] at hA
            have cX := rH.1.2.1 0 (by omega)
            have fX := rH.2 0 (by omega)
            have H2 := Lib.hid (rH.set (k := 0) (V := 49) (y' := rowQ (zb z) 1) (by omega) (fun i hi => by
              have h7 : i = 0 ∨ i = 1 ∨ i = 2 ∨ i = 3 ∨ i = 4 ∨ i = 5 ∨ i = 6 := by omega
              rcases h7 with rfl | rfl | rfl | rfl | rfl | rfl | rfl <;> simp [rowQ, rowP, hck]))
            have b2 := bytes_below rb (Nat.le_of_eq HG.out) 0 (.int .u8 (49 : Nat))
            obtain ⟨X, hX⟩ : ∃ X, rowQ (zb z) 0 0 = X := ⟨_, rfl⟩
            rw [hX] at cX
            clear hX rH rb hck
            go_wp2
            go_roundw
            case rel => exact ⟨1, 2, .inr (.inl ⟨rfl, rfl⟩), by go_num, H2.out, b2⟩
            case measure => simp [intOf]
          · rw [if_neg hck] at hA
            have hck8 := (ck3_bit (zb z 0) (zb z 1) (zb z 3)).resolve_right hck
            have H2 : Hid (RowH wr g (rowQ (zb z) 1)) := Lib.hid ⟨rH.1.congr (fun i hi => by
              have h7 : i = 0 ∨ i = 1 ∨ i = 2 ∨ i = 3 ∨ i = 4 ∨ i = 5 ∨ i = 6 := by omega
              rcases h7 with rfl | rfl | rfl | rfl | rfl | rfl | rfl <;> simp [rowQ, rowP, hck8]), rH.2⟩
            have RB := Lib.hid rb
            clear rH rb hck hck8
            go_wp2
            go_roundw
            case rel => exact ⟨1, 2, .inr (.inl ⟨rfl, rfl⟩), by go_num, H2.out, RB.out⟩
            case measure => simp [intOf]
        · have hA := HA2.out
          by_cases hck : ck3 (zb z 0) (zb z 2) (zb z 3) = 49
          · rw [if_pos hck] at hA
            have cX := rH.1.2.1 1 (by omega)
            have fX := rH.2 1 (by omega)
            have H2 := Lib.hid (rH.set (k := 1) (V := 49) (y' := rowQ (zb z) 2) (by omega) (fun i hi => by
              have h7 : i = 0 ∨ i = 1 ∨ i = 2 ∨ i = 3 ∨ i = 4 ∨ i = 5 ∨ i = 6 := by omega
              rcases h7 with rfl | rfl | rfl | rfl | rfl | rfl | rfl <;> simp [rowQ, rowP, hck]))
            have b2 := bytes_below rb (Nat.le_of_eq HG.out) 1 (.int .u8 (49 : Nat))
            obtain ⟨X, hX⟩ : ∃ X, rowQ (zb z) 1 1 = X := ⟨_, rfl⟩
            rw [hX] at cX
            clear hX rH rb hck
            go_wp2
            go_roundw
            case rel => exact ⟨2, 4, .inr (.inr (.inl ⟨rfl, rfl⟩)), by go_num, H2.out, b2⟩
            case measure => simp [intOf]
          · rw [if_neg hck] at hA
            have hck8 := (ck3_bit (zb z 0) (zb z 2) (zb z 3)).resolve_right hck
            have H2 : Hid (RowH wr g (rowQ (zb z) 2)) := Lib.hid ⟨rH.1.congr (fun i hi => by
              have h7 : i = 0 ∨ i = 1 ∨ i = 2 ∨ i = 3 ∨ i = 4 ∨ i = 5 ∨ i = 6 := by omega
              rcases h7 with rfl | rfl | rfl | rfl | rfl | rfl | rfl <;> simp [rowQ, rowP, hck8]), rH.2⟩
            have RB := Lib.hid rb
            clear rH rb hck hck8
            go_wp2
            go_roundw
            case rel => exact ⟨2, 4, .inr (.inr (.inl ⟨rfl, rfl⟩)), by go_num, H2.out, RB.out⟩
            case measure => simp [intOf]
        · have hA := HA4.out
          by_cases hck : ck3 (zb z 1) (zb z 2) (zb z 3) = 49
          · rw [if_pos hck] at hA
            have cX := rH.1.2.1 3 (by omega)
            have fX := rH.2 3 (by omega)
            have H2 := Lib.hid (rH.set (k := 3) (V := 49) (y' := rowQ (zb z) 3) (by omega) (fun i hi => by
              have h7 : i = 0 ∨ i = 1 ∨ i = 2 ∨ i = 3 ∨ i = 4 ∨ i = 5 ∨ i = 6 := by omega
              rcases h7 with rfl | rfl | rfl | rfl | rfl | rfl | rfl <;> simp [rowQ, rowP, hck]))
            have b2 := bytes_below rb (Nat.le_of_eq HG.out) 3 (.int .u8 (49 : Nat))
            obtain ⟨X, hX⟩ : ∃ X, rowQ (zb z) 2 3 = X := ⟨_, rfl⟩
            rw [hX] at cX
            clear hX rH rb hck
            go_wp2
            go_roundw
            case rel => exact ⟨3, 8, .inr (.inr (.inr ⟨rfl, rfl⟩)), by go_num, H2.out, b2⟩
            case measure => simp [intOf]
          · rw [if_neg hck] at hA
            have hck8 := (ck3_bit (zb z 1) (zb z 2) (zb z 3)).resolve_right hck
            have H2 : Hid (RowH wr g (rowQ (zb z) 3)) := Lib.hid ⟨rH.1.congr (fun i hi => by
              have h7 : i = 0 ∨ i = 1 ∨ i = 2 ∨ i = 3 ∨ i = 4 ∨ i = 5 ∨ i = 6 := by omega
              rcases h7 with rfl | rfl | rfl | rfl | rfl | rfl | rfl <;> simp [rowQ, rowP, hck8]), rH.2⟩
            have RB := Lib.hid rb
            clear rH rb hck hck8
            go_wp2
            go_roundw
            case rel => exact ⟨3, 8, .inr (.inr (.inr ⟨rfl, rfl⟩)), by go_num, H2.out, RB.out⟩
            case measure => simp [intOf]
        · have R3 := Lib.hid (rH.1.congr (rowQ_full (zb z)))
          have RB := Lib.hid rb
          clear rH rb
          go_wp2
          go_ret
          exact ⟨g, c, rfl, Nat.le_of_eq HG.out, R3.out, RB.out⟩
end Go.Proofs.YtabokoodpobnnaaDoor
namespace Go.Proofs.YtabokoodpobnnaaDoor
open Go.RowKit Go.Shelf
set_option linter.unusedVariables false
set_option maxRecDepth 100000
set_option maxHeartbeats 1600000 in
theorem iHe_any (z : ByteArray) (w : World) (hs : z.size ≤ 1048576) (hp : PlacesAt w) (h0 : 0 < w.heap.size) :
    Calls Tryd.prog 16 #[.string z] w fun e w' => e = .returned (.tuple #[.string (heAns z).1, .bool (heAns z).2]) ∧ Below w.heap.size w w' := by
  have HV := Lib.hid (fun w => bitsValid_any z w (by omega))
  cases hb : bitsB z with
  | false =>
    have HX := Lib.hid (he_no (z := z) (by rw [hb]; simp))
    rw [hb] at HV
    clear hb hp
    go_enter Tryd.func16, Tryd.ntmps16
    go_wp2_with fail
    refine (HV.out _).mono ?_
    rintro e w1 ⟨rfl, rfl⟩
    go_wp2
    go_ret2
    exact ⟨ret_sA HX.out, Below.refl _ _⟩
  | true =>
    rw [hb] at HV
    obtain ⟨ho, h6⟩ := bits_of2 hb
    by_cases h7 : z.size % 4 = 0
    · obtain ⟨n, hn⟩ : ∃ n, z.size / 4 = n := ⟨_, rfl⟩
      have hzn : z.size = 4 * n := by omega
      have t1 : (z.size : Int) % 4 = 0 := by omega
      have t2 : (z.size : Int) / 4 = (n : Int) := by omega
      by_cases h8 : n * 7 ≤ 600
      · have HX : Hid (heAns z = (strF (7 * n) (encF z), true)) := Lib.hid (by unfold heAns; rw [if_pos ⟨hb, h7, by rw [hn]; exact h8⟩, hn, Nat.mul_comm n 7])
        have HO := Lib.hid ho
        have HP := Lib.hid hp
        clear hb ho h7 hn hp
        go_enter Tryd.func16, Tryd.ntmps16
        go_wp2_with fail
        refine (HV.out _).mono ?_
        rintro e w1 ⟨rfl, rfl⟩
        go_wp2
        clear t1 t2
        go_loopw [4, 5] (fun s i wr => ∃ b : Nat, b ≤ n ∧ i = .int .i64 (4 * b : Nat) ∧ BO wr w.heap.size s (7 * b) (encF z) ∧ Below w.heap.size w wr) (fun _ i _ => z.size - (intOf i).toNat)
        case atStart => exact ⟨0, by omega, by simp, BO.nil _ _ _, Below.refl _ _⟩
        case round =>
          obtain ⟨b, hk, rfl, rO, b0⟩ := hrel
          by_cases hlt : b < n
          · have hle : 4 * b + 4 ≤ z.size := by omega
            have hsB := size_extract z (4 * b) (4 * b + 4) hle
            have hok := okCut HO.out (4 * b) (4 * b + 4) hle
            have hN := fun j (hj : j < 7) => blk_cut hle hj
            have h0r : 0 < wr.heap.size := Nat.lt_of_lt_of_le h0 b0.size
            have hC := blockOf_any (z.extract (4 * b) (4 * b + 4)) wr (by omega) hok (PlacesAt.below HP.out h0 b0) h0r
            have HPE : Hid (4 * (b + 1) = 4 * b + 4) := Lib.hid (by omega)
            obtain ⟨B, hB⟩ : ∃ B, z.extract (4 * b) (4 * b + 4) = B := ⟨_, rfl⟩
            rw [hB] at hC hN
            obtain ⟨P, hP⟩ : ∃ P, 4 * b = P := ⟨_, rfl⟩
            rw [hP] at hB hle HPE ⊢
            obtain ⟨E, hE⟩ : ∃ E, P + 4 = E := ⟨_, rfl⟩
            rw [hE] at hB hle HPE
            have hE' : (P : Int) + 4 = (E : Int) := by omega
            have i0 : (0 : Int) ≤ (P : Int) := by omega
            have i1 : (P : Int) ≤ (E : Int) := by omega
            have i2 : (E : Int) ≤ (z.size : Int) := by omega
            have i3 : (P : Int) < (z.size : Int) := by omega
            have HEN := Lib.hid hE
            have HK := Lib.hid hlt
            have HN := Lib.hid hN
            have HC := Lib.hid hC
            have BB := Lib.hid b0
            clear hsB hok hN hC hP hE hlt hk b0 hle h0r
            go_wp2_with fail
            refine HC.out.mono ?_
            rintro e w1 ⟨g, c, rfl, hg, rG, hb1⟩
            have b1 := below_then BB.out (Nat.le_refl _) hb1
            have O1 := rO.below hb1
            clear hb1 rO
            go_wp2_with (at_builtin; refine wpList_append_bytes rfl (.tmp 28) (.tmp 34) rfl w.heap.size _ (7 * b) (encF z) rfl O1 g 0 7 c (blkV (zb B)) rfl (fun j hj => by rw [Nat.zero_add]; exact rG.2.1 j hj) (by have := HK.out; omega) b1.size ?_; intro v' w' O3 g3)
            have O4 := Lib.hid (O3.congr (g := encF z) (fun i hi => by
              by_cases e : i < 7 * b
              · rw [if_pos e]
              · rw [if_neg e, HN.out _ (by omega)]; congr 1; omega))
            have nb := Lib.hid (b1.grown g3 b1.size (fun q hq => (O1.lt q hq).1))
            clear O3 g3 O1 b1 rG
            go_wp2
            go_roundw
            case rel => exact ⟨b + 1, HK.out, by rw [HPE.out], by rw [show 7 * (b + 1) = 7 * b + 7 by omega]; exact O4.out, nb.out⟩
            case measure => have := HEN.out; simp [intOf]; omega
          · obtain rfl : b = n := by omega
            have j1 : ¬ ((4 * b : Nat) : Int) < (z.size : Int) := by omega
            obtain ⟨P, hP⟩ : ∃ P, 4 * b = P := ⟨_, rfl⟩
            rw [hP] at j1 ⊢
            have hcv := BO.str rO
            clear hP hzn hlt hk rO
            go_wp2
            go_ret2
            exact ⟨ret_sA HX.out, b0⟩
      · have HX := Lib.hid (he_no (z := z) (fun h => h8 (by rw [← hn]; exact h.2.2)))
        clear hb h7 hn hp
        go_enter Tryd.func16, Tryd.ntmps16
        go_wp2_with fail
        refine (HV.out _).mono ?_
        rintro e w1 ⟨rfl, rfl⟩
        go_wp2
        go_ret2
        exact ⟨ret_sA HX.out, Below.refl _ _⟩
    · have HX := Lib.hid (he_no (z := z) (fun h => h7 h.2.1))
      obtain ⟨M, hM⟩ : ∃ M, z.size % 4 = M := ⟨_, rfl⟩
      have t1 : (z.size : Int) % 4 = (M : Int) := by omega
      have t2 : ((M : Int) != 0) = true := by simp; omega
      clear hb h7 hM hp
      go_enter Tryd.func16, Tryd.ntmps16
      go_wp2_with fail
      refine (HV.out _).mono ?_
      rintro e w1 ⟨rfl, rfl⟩
      go_wp2
      go_ret2
      exact ⟨ret_sA HX.out, Below.refl _ _⟩
end Go.Proofs.YtabokoodpobnnaaDoor
namespace Go.Proofs.YtabokoodpobnnaaDoor
open Go.RowKit
set_option linter.unusedVariables false
set_option maxRecDepth 100000
theorem ppNoS : noS.1.size = 0 := rfl
theorem ppBits {z : ByteArray} (h : okB z z.size = true) (h6 : z.size ≤ 600) : bitsB z = true := by unfold bitsB; rw [h, decide_eq_true h6]; rfl
theorem ppMany48 (n : Nat) : okB (many ⟨#[48]⟩ n) (many ⟨#[48]⟩ n).size = true := okB_of_zb _ fun i hi => by
  left
  rw [many_byte_size] at hi
  rw [zb_many _ _ _ (by show i < 1 * n; omega)]
  show zb ⟨#[48]⟩ (i % 1) = 48
  rw [Nat.mod_one]; rfl
theorem ppHe_ok {z : ByteArray} : okB (heAns z).1 (heAns z).1.size = true ∧ (heAns z).1.size ≤ 600 := by
  unfold heAns
  split
  · rename_i h
    refine ⟨okB_of_zb _ fun i hi => ?_, by rw [strF_size]; exact h.2.2⟩
    rw [strF_size] at hi
    rw [zb_strF hi (encF_lt _ _)]
    have hok : okB z z.size = true := by have := h.1; unfold bitsB at this; simp only [Bool.and_eq_true] at this; exact this.1
    have hb : ∀ k, k < 4 → zb z (4 * (i / 7) + k) = 48 ∨ zb z (4 * (i / 7) + k) = 49 := fun k hk => okB_zb z hok _ (by omega)
    unfold encF blkV
    by_cases e0 : i % 7 = 0
    · rw [if_pos e0]; exact ck3_bit _ _ _
    · rw [if_neg e0]
      by_cases e1 : i % 7 = 1
      · rw [if_pos e1]; exact ck3_bit _ _ _
      · rw [if_neg e1]
        by_cases e2 : i % 7 = 2
        · rw [if_pos e2]; exact hb 0 (by omega)
        · rw [if_neg e2]
          by_cases e3 : i % 7 = 3
          · rw [if_pos e3]; exact ck3_bit _ _ _
          · rw [if_neg e3]; exact hb _ (by omega)
  · exact ⟨rfl, by show 0 ≤ 600; omega⟩
theorem repL_get : ∀ (c i : Nat), i < c → (Lib.repeatL [48] c)[i]? = some 48
  | 0, i, h => by omega
  | c + 1, i, h => by
    cases i with
    | zero => rfl
    | succ i => show (Lib.repeatL [48] c)[i]? = some 48; exact repL_get c i (by omega)
theorem zb_get (z : ByteArray) (i : Nat) (x : UInt8) (h : z.data.toList[i]? = some x) : zb z i = x.toNat := by
  obtain ⟨l⟩ := z
  obtain ⟨l⟩ := l
  have hi : i < l.length := (List.getElem?_eq_some_iff.1 h).1
  rw [← zb_at ⟨⟨l⟩⟩ i hi]
  have := (List.getElem?_eq_some_iff.1 h).2
  show l[i].toNat = _
  rw [← this]
theorem rep_many (c : Nat) : (⟨(Lib.repeatL [48] c).toArray⟩ : ByteArray) = many ⟨#[48]⟩ c := by
  have hl : (Lib.repeatL [48] c).length = c := by rw [Lib.repeatL_length]; show c * 1 = c; omega
  refine strF_of _ _ _ (by show (Lib.repeatL [48] c).toArray.size = 1 * c; rw [List.size_toArray, hl]; omega) fun i hi => ?_
  have hi' : i < c := by have : i < 1 * c := hi; omega
  rw [zb_get _ i 48 (repL_get c i hi')]
  show 48 = zb ⟨#[48]⟩ (i % 1)
  rw [Nat.mod_one]; rfl
/-- A frame, filled up. -/
def padS (z : ByteArray) (N : Nat) : ByteArray := z ++ many ⟨#[48]⟩ (modN (-(z.size : Int)) N)
def ppZ (z : ByteArray) (R : Nat) (S T X : Int) : Nat → ByteArray
  | 0 => z
  | 1 => (frmAns z).1
  | 2 => padS (frmAns z).1 (4 * R)
  | 3 => (heAns (padS (frmAns z).1 (4 * R))).1
  | 4 => (intAns (heAns (padS (frmAns z).1 (4 * R))).1 R).1
  | _ => (scrAns (intAns (heAns (padS (frmAns z).1 (4 * R))).1 R).1 S T X).1
def ppK (z : ByteArray) (R : Nat) (S T X : Int) : Nat → Bool
  | 0 => (frmAns z).2
  | 1 => true
  | 2 => (heAns (padS (frmAns z).1 (4 * R))).2
  | 3 => (intAns (heAns (padS (frmAns z).1 (4 * R))).1 R).2
  | _ => (scrAns (intAns (heAns (padS (frmAns z).1 (4 * R))).1 R).1 S T X).2
def ppAns (z : ByteArray) (n S T X : Int) : ByteArray × Bool := if 1 ≤ n ∧ n ≤ 40 then ordAns (ppZ z n.toNat S T X) (ppK z n.toNat S T X) 5 else noS
theorem frm_size (z : ByteArray) : (frmAns z).1.size ≤ 123 := by
  unfold frmAns
  split
  · rename_i h
    have h100 : z.size ≤ 100 := by unfold payB at h; simp only [Bool.and_eq_true, decide_eq_true_eq] at h; exact h.2
    show (frmS z).size ≤ 123
    rw [frmS_size]; omega
  · rw [ppNoS]; omega
theorem padS_size (z : ByteArray) (N : Nat) (h : 1 ≤ N) : (padS z N).size ≤ z.size + N := padded_size z N h
theorem he_size (z : ByteArray) : (heAns z).1.size ≤ 600 := (ppHe_ok (z := z)).2
theorem int_size (z : ByteArray) (n : Int) : (intAns z n).1.size ≤ z.size := by
  unfold intAns
  split
  · show (weaveS z _ _).size ≤ z.size
    rw [show (weaveS z n.toNat (z.size / n.toNat)).size = z.size from strF_size _ _]
    exact Nat.le_refl _
  · rw [ppNoS]; omega
theorem pp1_any (z : ByteArray) (R b : Nat) (w : World) (hs : z.size ≤ 1000) (h1 : 1 ≤ R) (h2 : R ≤ 40) (hc : w.cell? ⟨b, 0, none⟩ = some (.int .i64 R)) :
    Calls Tryd.prog 31 #[.string z, .pointer (some ⟨b, 0, none⟩)] w fun e w' => e = .returned (.tuple #[.string (padS z (4 * R)), .bool true]) ∧ Below w.heap.size w w' := by
  have hL := fun w => modulo_any (-(z.size : Int)) (4 * R) w (by omega) (by omega)
  have hl := modN_lt (-(z.size : Int)) (4 * R) (by omega)
  have HX : Hid (z ++ many ⟨#[48]⟩ (modN (-(z.size : Int)) (4 * R)) = padS z (4 * R)) := Lib.hid rfl
  obtain ⟨m, hm⟩ : ∃ m, modN (-(z.size : Int)) (4 * R) = m := ⟨_, rfl⟩
  rw [hm] at hL hl HX
  have hM := fun w => rep_any ⟨#[48]⟩ m w (by omega) (by show 1 * m ≤ _; omega)
  have e : (⟨(Lib.repeatL (⟨#[48]⟩ : ByteArray).data.toList m).toArray⟩ : ByteArray) = many ⟨#[48]⟩ m := rep_many m
  rw [e] at hM
  have hsz := many_byte_size 48 m
  obtain ⟨Y, hY⟩ : ∃ Y, many ⟨#[48]⟩ m = Y := ⟨_, rfl⟩
  rw [hY] at hM hsz HX
  obtain ⟨Q, hQ⟩ : ∃ Q, padS z (4 * R) = Q := ⟨_, rfl⟩
  rw [hQ] at HX ⊢
  obtain ⟨N, hN⟩ : ∃ N, 4 * R = N := ⟨_, rfl⟩
  rw [hN] at hL hl
  have v1 : (4 : Int) * (R : Int) = (N : Int) := by omega
  have hq : z.size + Y.size ≤ 9223372036854775807 := by omega
  have HL := Lib.hid hL
  have HM := Lib.hid hM
  clear hL hM hm hY hQ hN hsz hl e
  go_enter Tryd.func31, Tryd.ntmps31
  go_wp2_with fail
  refine (HL.out _).mono ?_
  rintro e w' ⟨rfl, rfl⟩
  go_wp2_with fail
  refine (HM.out _).mono ?_
  rintro e w1 ⟨rfl, hb1⟩
  go_wp2
  go_ret2
  refine ⟨?_, hb1⟩
  have hx := HX.out
  subst hx
  rfl
theorem pp2_any (z : ByteArray) (n : Int) (b : Nat) (w : World) (hs : z.size ≤ 1048576) (hc : w.cell? ⟨b, 0, none⟩ = some (.int .i64 n)) :
    Calls Tryd.prog 34 #[.string z, .pointer (some ⟨b, 0, none⟩)] w fun e w' => e = .returned (.tuple #[.string (intAns z n).1, .bool (intAns z n).2]) ∧ Below w.heap.size w w' := by
  have HS := Lib.hid (fun w => iInter_any z n w hs)
  obtain ⟨A, hA⟩ : ∃ A, intAns z n = A := ⟨_, rfl⟩
  rw [hA] at HS ⊢
  obtain ⟨A1, A2⟩ := A
  clear hA hs
  go_enter Tryd.func34, Tryd.ntmps34
  go_wp2_with fail
  refine (HS.out _).mono ?_
  rintro e w1 ⟨rfl, hb1⟩
  go_wp2
  go_ret2
  exact ⟨rfl, hb1⟩
theorem pp3_any (z : ByteArray) (S T X : Int) (b : Nat) (w : World) (hs : z.size ≤ 1048576) (hr : RegAt w b S T X) :
    Calls Tryd.prog 36 #[.string z, .pointer (some ⟨b, 0, none⟩)] w fun e w' => e = .returned (.tuple #[.string (scrAns z S T X).1, .bool (scrAns z S T X).2]) ∧ Below w.heap.size w w' := by
  have HS := Lib.hid (fun w => iScr_any z S T X w hs)
  obtain ⟨A, hA⟩ : ∃ A, scrAns z S T X = A := ⟨_, rfl⟩
  rw [hA] at HS ⊢
  obtain ⟨A1, A2⟩ := A
  obtain ⟨c0, c1, c2, -⟩ := hr
  clear hA hs
  go_enter Tryd.func36, Tryd.ntmps36
  go_wp2_with fail
  refine (HS.out _).mono ?_
  rintro e w1 ⟨rfl, hb1⟩
  go_wp2
  go_ret2
  exact ⟨rfl, hb1⟩
def ppV (gi gr : Nat) : Nat → Value
  | 0 => .func (.func 30) #[] #[]
  | 1 => .func (.func 31) #[] #[.pointer (some ⟨gi, 0, none⟩)]
  | 2 => .func (.func 16) #[] #[]
  | 3 => .func (.func 34) #[] #[.pointer (some ⟨gi, 0, none⟩)]
  | _ => .func (.func 36) #[] #[.pointer (some ⟨gr, 0, none⟩)]
theorem cells5 (X : World) (a b c d e : Value) (t : TypeId) : (X.alloc (.cells #[a, b, c, d, e] t)).cell? ⟨X.heap.size, 0, none⟩ = some a ∧ (X.alloc (.cells #[a, b, c, d, e] t)).cell? ⟨X.heap.size, 1, none⟩ = some b ∧ (X.alloc (.cells #[a, b, c, d, e] t)).cell? ⟨X.heap.size, 2, none⟩ = some c ∧ (X.alloc (.cells #[a, b, c, d, e] t)).cell? ⟨X.heap.size, 3, none⟩ = some d ∧ (X.alloc (.cells #[a, b, c, d, e] t)).cell? ⟨X.heap.size, 4, none⟩ = some e := by
  refine ⟨?_, ?_, ?_, ?_, ?_⟩ <;> simp
set_option maxHeartbeats 1600000 in
theorem iPrt_any (z : ByteArray) (n S T X : Int) (w : World) (hs : z.size ≤ 1048576) (hp : PlacesAt w) (h0 : 0 < w.heap.size) :
    Calls Tryd.prog 10 #[.string z, .int .i64 n, .agg #[.int .i64 S, .int .i64 T, .int .i64 X]] w fun e w' => e = .returned (.tuple #[.string (ppAns z n S T X).1, .bool (ppAns z n S T X).2]) ∧ Below w.heap.size w w' := by
  have s1 : (w.alloc (.cells #[.int .i64 n] 3)).heap.size = w.heap.size + 1 := World.size_alloc _ _
  have s2 : ((w.alloc (.cells #[.int .i64 n] 3)).alloc (.cells #[.int .i64 S, .int .i64 T, .int .i64 X] 26)).heap.size = w.heap.size + 2 := by rw [World.size_alloc, s1]
  have b2 : Below w.heap.size w ((w.alloc (.cells #[.int .i64 n] 3)).alloc (.cells #[.int .i64 S, .int .i64 T, .int .i64 X] 26)) := ((Below.refl _ _).alloc (Nat.le_refl _) _).alloc (by rw [s1]; omega) _
  have ci : ((w.alloc (.cells #[.int .i64 n] 3)).alloc (.cells #[.int .i64 S, .int .i64 T, .int .i64 X] 26)).cell? ⟨w.heap.size, 0, none⟩ = some (.int .i64 n) := box_old (box_new w _ _) (by rw [s1]; omega) _
  have HR := Lib.hid (fun w => iRows_any n w)
  by_cases hn : 1 ≤ n ∧ n ≤ 40
  · obtain ⟨R, rfl⟩ : ∃ R : Nat, n = R := ⟨n.toNat, by omega⟩
    rw [show (decide (1 ≤ (R : Int)) && decide ((R : Int) ≤ 40)) = true by simp; omega] at HR
    have hcall : ∀ gi gr g2, gi = w.heap.size → gr = w.heap.size + 1 → g2 = w.heap.size + 2 → ∀ W, W = ((w.alloc (.cells #[.int .i64 R] 3)).alloc (.cells #[.int .i64 S, .int .i64 T, .int .i64 X] 26)).alloc (.cells #[ppV gi gr 0, ppV gi gr 1, ppV gi gr 2, ppV gi gr 3, ppV gi gr 4] 33) →
        Calls Tryd.prog 29 #[.string z, .slice (some ⟨g2, 0, none⟩) 5 5] W fun e w' => e = .returned (.tuple #[.string (ppAns z R S T X).1, .bool (ppAns z R S T X).2]) ∧ Below w.heap.size w w' := by
      rintro gi gr g2 rfl rfl rfl W hW
      have bb : Below w.heap.size w W := by rw [hW]; exact b2.alloc (by rw [s2]; omega) _
      have sW : W.heap.size = w.heap.size + 3 := by rw [hW, World.size_alloc, s2]
      have ci' : W.cell? ⟨w.heap.size, 0, none⟩ = some (.int .i64 R) := by
        rw [hW]; exact box_old ci (by rw [s2]; omega) _
      have cr : RegAt W (w.heap.size + 1) S T X := by
        have h := RegAt.new (w.alloc (.cells #[.int .i64 R] 3)) 26 S T X
        rw [s1] at h
        rw [hW]
        exact h.below ((Below.refl _ _).alloc (Nat.le_refl _) _) (by rw [s2]; omega)
      have cells : ∀ i, i < 5 → W.cell? ⟨w.heap.size + 2, i, none⟩ = some (ppV w.heap.size (w.heap.size + 1) i) := by
        intro i hi
        have hi' : i = 0 ∨ i = 1 ∨ i = 2 ∨ i = 3 ∨ i = 4 := by omega
        rw [hW, ← s2]
        obtain ⟨q0, q1, q2, q3, q4⟩ := cells5 ((w.alloc (.cells #[.int .i64 R] 3)).alloc (.cells #[.int .i64 S, .int .i64 T, .int .i64 X] 26)) (ppV w.heap.size (w.heap.size + 1) 0) (ppV w.heap.size (w.heap.size + 1) 1) (ppV w.heap.size (w.heap.size + 1) 2) (ppV w.heap.size (w.heap.size + 1) 3) (ppV w.heap.size (w.heap.size + 1) 4) 33
        rcases hi' with rfl | rfl | rfl | rfl | rfl
        · exact q0
        · exact q1
        · exact q2
        · exact q3
        · exact q4
      have z1 := frm_size z
      have z2 := padS_size (frmAns z).1 (4 * R) (by omega)
      have z3 := he_size (padS (frmAns z).1 (4 * R))
      have z4 := int_size (heAns (padS (frmAns z).1 (4 * R))).1 R
      have key := inOrder_any 5 (w.heap.size + 2) 5 (ppV w.heap.size (w.heap.size + 1)) (ppZ z R S T X) (ppK z R S T X) W (by omega) (by omega) cells (by
        intro i hi
        have hi' : i = 0 ∨ i = 1 ∨ i = 2 ∨ i = 3 ∨ i = 4 := by omega
        rcases hi' with rfl | rfl | rfl | rfl | rfl
        · exact ⟨_, _, rfl, enters_of Tryd.func30 (by kernel_rfl) rfl, fun V hV => iFrame_any z V hs⟩
        · exact ⟨_, _, rfl, enters_of Tryd.func31 (by kernel_rfl) rfl, fun V hV => pp1_any _ R _ V (by show (frmAns z).1.size ≤ _; omega) (by omega) (by omega) (box_kept ci' (by omega) hV)⟩
        · exact ⟨_, _, rfl, enters_of Tryd.func16 (by kernel_rfl) rfl, fun V hV => iHe_any _ V (by show (padS (frmAns z).1 (4 * R)).size ≤ _; omega) (PlacesAt.below (PlacesAt.below hp h0 bb) (by omega) hV) (by have := hV.size; omega)⟩
        · exact ⟨_, _, rfl, enters_of Tryd.func34 (by kernel_rfl) rfl, fun V hV => pp2_any _ R _ V (by show (heAns (padS (frmAns z).1 (4 * R))).1.size ≤ _; omega) (box_kept ci' (by omega) hV)⟩
        · exact ⟨_, _, rfl, enters_of Tryd.func36 (by kernel_rfl) rfl, fun V hV => pp3_any _ S T X _ V (by show (intAns (heAns (padS (frmAns z).1 (4 * R))).1 R).1.size ≤ _; omega) (cr.below hV (by omega))⟩)
      have e : ppAns z R S T X = ordAns (ppZ z R S T X) (ppK z R S T X) 5 := by unfold ppAns; rw [if_pos hn, Int.toNat_natCast]
      rw [e]
      exact key.mono fun e w' ⟨he, hb⟩ => ⟨he, below_then bb (by omega) hb⟩
    obtain ⟨A, hA⟩ : ∃ A, ppAns z R S T X = A := ⟨_, rfl⟩
    rw [hA] at hcall ⊢
    obtain ⟨A1, A2⟩ := A
    have HC := Lib.hid hcall
    clear hA hs hp h0 hcall s1 s2 b2 hn
    go_enter Tryd.func10, Tryd.ntmps10
    go_wp2_with fail
    refine (HR.out _).mono ?_
    rintro e w' ⟨rfl, rfl⟩
    go_wp2_with fail
    refine (HC.out _ _ _ rfl (by first | rfl | simp) (by first | rfl | simp) _ rfl).mono ?_
    rintro e w1 ⟨rfl, hb1⟩
    go_wp2
    go_ret2
    exact ⟨rfl, hb1⟩
  · have hA : ppAns z n S T X = noS := by unfold ppAns; rw [if_neg hn]
    have HX := Lib.hid hA
    have hb : (decide (1 ≤ n) && decide (n ≤ 40)) = false := by
      rw [Bool.and_eq_false_iff, decide_eq_false_iff_not, decide_eq_false_iff_not]; omega
    rw [hb] at HR
    clear hA hb hn hs hp h0 s1 s2
    go_enter Tryd.func10, Tryd.ntmps10
    go_wp2_with fail
    refine (HR.out _).mono ?_
    rintro e w' ⟨rfl, rfl⟩
    go_wp2
    go_ret2
    exact ⟨ret_sA HX.out, b2⟩
theorem pad_dvd (s N : Nat) (h : 1 ≤ N) : ∃ m, s + modN (-(s : Int)) N = N * m := by
  have h1 := modN_eq (-(s : Int)) N (by omega)
  have h2 := Int.mul_ediv_add_emod (-(s : Int)) N
  have h3 : (N : Int) ∣ ((s + modN (-(s : Int)) N : Nat) : Int) := ⟨-(-(s : Int) / (N : Int)), by rw [Int.mul_neg, Int.natCast_add, h1]; omega⟩
  exact Int.natCast_dvd_natCast.1 h3
theorem pay_of {z : ByteArray} (h : payB z = true) : okB z z.size = true ∧ z.size ≤ 100 := by
  unfold payB at h
  simp only [Bool.and_eq_true, decide_eq_true_eq] at h
  exact ⟨(bits_of2 h.1).1, h.2⟩
theorem prot {z : ByteArray} (h : payB z = true) {R : Nat} (h1 : 1 ≤ R) (h2 : R ≤ 40) : ∃ B C, heAns (padS (frmS z) (4 * R)) = (B, true) ∧ 0 < B.size ∧ B.size = R * C ∧ B.size ≤ 600 ∧ B.size / R = C ∧ bitsB B = true := by
  obtain ⟨ho, h100⟩ := pay_of h
  have hs := frmS_size z
  obtain ⟨m, hm⟩ := pad_dvd (frmS z).size (4 * R) (by omega)
  have hl := modN_lt (-((frmS z).size : Int)) (4 * R) (by omega)
  have hps : (padS (frmS z) (4 * R)).size = 4 * (R * m) := by
    unfold padS
    rw [ByteArray.size_append, many_byte_size, hm, Nat.mul_assoc]
  have hpo : okB (padS (frmS z) (4 * R)) (padS (frmS z) (4 * R)).size = true := okApp (frmS_ok ho) (ppMany48 _)
  have hle : (padS (frmS z) (4 * R)).size ≤ 283 := by
    unfold padS
    rw [ByteArray.size_append, many_byte_size]; omega
  have h0 : 0 < (padS (frmS z) (4 * R)).size := by
    unfold padS
    rw [ByteArray.size_append]; omega
  generalize padS (frmS z) (4 * R) = P at hps hpo hle h0
  obtain ⟨q, hq⟩ : ∃ q, R * m = q := ⟨_, rfl⟩
  rw [hq] at hps
  have e : heAns P = (strF (P.size / 4 * 7) (encF P), true) := by unfold heAns; rw [if_pos ⟨ppBits hpo (by omega), by omega, by omega⟩]
  have hBs : (strF (P.size / 4 * 7) (encF P)).size = q * 7 := by rw [strF_size]; omega
  have hBo := ppHe_ok (z := P)
  rw [e] at hBo
  refine ⟨_, m * 7, e, by rw [hBs]; omega, by rw [hBs, ← hq, Nat.mul_assoc], hBo.2, ?_, ppBits hBo.1 hBo.2⟩
  rw [hBs, ← hq, Nat.mul_assoc]
  exact Nat.mul_div_cancel_left _ (by omega)
theorem pp_rows {z : ByteArray} {n S T X : Int} (h : ¬ (1 ≤ n ∧ n ≤ 40)) : ppAns z n S T X = noS := by unfold ppAns; rw [if_neg h]
theorem ord5_no {z : Nat → ByteArray} {ok : Nat → Bool} {k : Nat} (h : ok k = false) (hk : k < 5) : ordAns z ok 5 = noS := by
  unfold ordAns; rw [allB_not h 5 hk]; exact if_neg (by simp)
theorem ord5_yes {z : Nat → ByteArray} {ok : Nat → Bool} (h : ∀ k, k < 5 → ok k = true) : ordAns z ok 5 = (z 5, true) := by
  have : allB ok 5 = true := by simp only [allB]; rw [h 0 (by omega), h 1 (by omega), h 2 (by omega), h 3 (by omega), h 4 (by omega)]; rfl
  unfold ordAns; rw [this]; exact if_pos rfl
theorem pp_pay {z : ByteArray} {n S T X : Int} (h : payB z = false) : ppAns z n S T X = noS := by
  unfold ppAns
  by_cases hn : 1 ≤ n ∧ n ≤ 40
  · rw [if_pos hn]
    refine ord5_no (k := 0) ?_ (by omega)
    show (frmAns z).2 = false
    unfold frmAns; rw [h]; rfl
  · rw [if_neg hn]
theorem pp_reg {z : ByteArray} {n S T X : Int} (h : regB S T X = false) : ppAns z n S T X = noS := by
  unfold ppAns
  by_cases hn : 1 ≤ n ∧ n ≤ 40
  · rw [if_pos hn]
    refine ord5_no (k := 4) ?_ (by omega)
    show (scrAns _ S T X).2 = false
    rw [scr_no (by rw [h]; simp)]; rfl
  · rw [if_neg hn]
theorem pp_yes {z : ByteArray} {R C : Nat} {S T X : Int} (hz : payB z = true) (h1 : 1 ≤ R) (h2 : R ≤ 40) (hr : regB S T X = true) {B : ByteArray} (hB : heAns (padS (frmS z) (4 * R)) = (B, true)) (hs : B.size = R * C) (hc : B.size / R = C) (hb : bitsB B = true) :
    ppAns z R S T X = ((scrAns (weaveS B R C) S T X).1, true) ∧ (scrAns (weaveS B R C) S T X).2 = true := by
  have hf : frmAns z = (frmS z, true) := by unfold frmAns; rw [hz]; rfl
  have hi : intAns B R = (weaveS B R C, true) := by
    unfold intAns
    rw [if_pos ((fitB_iff B R).2 ⟨hb, by omega, by omega, by rw [Int.toNat_natCast, hs]; exact Nat.mul_mod_right _ _⟩), Int.toNat_natCast, hc]
  have hw : bitsB (weaveS B R C) = true := by
    obtain ⟨ho, h6⟩ := bits_of2 hb
    have hsz : (weaveS B R C).size = B.size := strF_size _ _
    refine ppBits (okB_of_zb _ fun i hi => ?_) (by omega)
    rw [hsz] at hi
    have hlt : i % R * C + i / R < B.size := by
      have hq : i / R < C := (Nat.div_lt_iff_lt_mul (by omega)).2 (by rw [Nat.mul_comm]; omega)
      have hr : i % R < R := Nat.mod_lt _ (by omega)
      have : (i % R + 1) * C ≤ R * C := Nat.mul_le_mul_right _ hr
      rw [Nat.add_mul, Nat.one_mul] at this
      omega
    rw [show zb (weaveS B R C) i = zb B (i % R * C + i / R) from zb_strF (f := fun i => zb B (i % R * C + i / R)) hi (zb_lt _ _)]
    exact okB_zb B ho _ hlt
  have hA : (scrAns (weaveS B R C) S T X).2 = true := by unfold scrAns; rw [if_pos ⟨hw, hr⟩]
  refine ⟨?_, hA⟩
  unfold ppAns
  rw [if_pos ⟨by omega, by omega⟩, Int.toNat_natCast]
  have key := ord5_yes (z := ppZ z R S T X) (ok := ppK z R S T X) (fun k hk => by
    have hk' : k = 0 ∨ k = 1 ∨ k = 2 ∨ k = 3 ∨ k = 4 := by omega
    rcases hk' with rfl | rfl | rfl | rfl | rfl
    · show (frmAns z).2 = true; rw [hf]
    · rfl
    · show (heAns (padS (frmAns z).1 (4 * R))).2 = true; rw [hf, hB]
    · show (intAns (heAns (padS (frmAns z).1 (4 * R))).1 R).2 = true; rw [hf, hB, hi]
    · show (scrAns (intAns (heAns (padS (frmAns z).1 (4 * R))).1 R).1 S T X).2 = true; rw [hf, hB, hi]; exact hA)
  rw [key]
  show ((scrAns (intAns (heAns (padS (frmAns z).1 (4 * R))).1 R).1 S T X).1, true) = _
  rw [hf, hB, hi]
set_option maxHeartbeats 1600000 in
theorem sPrt_any (z : ByteArray) (n S T X : Int) (w : World) (hs : z.size ≤ 1048576) :
    Calls Tryd.prog 8 #[.string z, .int .i64 n, .agg #[.int .i64 S, .int .i64 T, .int .i64 X]] w fun e w' => e = .returned (.tuple #[.string (ppAns z n S T X).1, .bool (ppAns z n S T X).2]) ∧ Below w.heap.size w w' := by
  have b0 : Below w.heap.size w (w.alloc (.cells #[.int .i64 S, .int .i64 T, .int .i64 X] 26)) := (Below.refl _ _).alloc (Nat.le_refl _) _
  have r0 := RegAt.new w 26 S T X
  have HF := Lib.hid (fun w => sFrame_any z w hs)
  cases hz : payB z with
  | false =>
    have HX := Lib.hid (pp_pay (n := n) (S := S) (T := T) (X := X) hz)
    have hf : frmAns z = noS := by unfold frmAns; rw [hz]; rfl
    rw [hf] at HF
    clear hz hf r0
    go_enter Tryd.func8, Tryd.ntmps8
    go_wp2_with fail
    refine (HF.out _).mono ?_
    rintro e w1 ⟨rfl, hb1⟩
    have b1 := below_then b0 (Nat.le_refl _) hb1
    clear hb1 b0
    go_wp2
    go_ret2
    exact ⟨ret_sA HX.out, b1⟩
  | true =>
    have hf : frmAns z = (frmS z, true) := by unfold frmAns; rw [hz]; rfl
    have hfs := frm_size z
    rw [hf] at HF hfs
    have HI := Lib.hid (fun w => l1In_any n 1 40 w)
    by_cases hn : 1 ≤ n ∧ n ≤ 40
    · obtain ⟨R, rfl⟩ : ∃ R : Nat, n = R := ⟨n.toNat, by omega⟩
      rw [show (decide (1 ≤ (R : Int)) && decide ((R : Int) ≤ 40)) = true by simp; omega] at HI
      cases hv : regB S T X with
      | false =>
        have HX := Lib.hid (pp_reg (z := z) (n := (R : Int)) hv)
        have HG := Lib.hid (fun w => sreg_valid S T X false w hv)
        obtain ⟨F, hF⟩ : ∃ F, frmS z = F := ⟨_, rfl⟩
        rw [hF] at HF
        clear hz hf hv hfs hF
        go_enter Tryd.func8, Tryd.ntmps8
        go_wp2_with fail
        refine (HF.out _).mono ?_
        rintro e w1 ⟨rfl, hb1⟩
        have r1 := r0.below hb1 (by simp)
        have b1 := below_then b0 (Nat.le_refl _) hb1
        obtain ⟨c0, c1, c2, -⟩ := id r1
        clear hb1 b0 r0
        go_wp2_with fail
        refine (HI.out _).mono ?_
        rintro e w' ⟨rfl, rfl⟩
        go_wp2_with fail
        refine (HG.out _).mono ?_
        rintro e w2 ⟨rfl, hb2⟩
        have b2 := below_then b1 (Nat.le_refl _) hb2
        clear hb2 b1 c0 c1 c2 r1
        go_wp2
        go_ret2
        exact ⟨ret_sA HX.out, b2⟩
      | true =>
        have HG := Lib.hid (fun w => sreg_valid S T X true w hv)
        obtain ⟨B, C, hB, hB0, hBs, hB6, hBC, hBb⟩ := prot hz (R := R) (by omega) (by omega)
        obtain ⟨hX, hA⟩ := pp_yes hz (R := R) (by omega) (by omega) hv hB hBs hBC hBb
        have hwz : (weaveS B R C).size = B.size := strF_size _ _
        have HW := Lib.hid (fun w => l6Weave_any B R C w (by omega) hBs hB6 hBC (by omega))
        have HS := Lib.hid (fun w => sScr_any (weaveS B R C) S T X w (by omega))
        rw [hA] at HS
        have HX := Lib.hid hX
        have HP := Lib.hid (fun w => l6Padded_any (frmS z) (4 * R) w (by have : (frmS z).size ≤ 123 := hfs; omega) (by omega) (by omega))
        have HP : Hid (∀ w, Calls Tryd.prog 25 #[.string (frmS z), .int .i64 (4 * R : Nat)] w fun e w' => e = .returned (.string (padS (frmS z) (4 * R))) ∧ w = w') := HP
        have hPs : (padS (frmS z) (4 * R)).size ≤ 1000 := by have := padS_size (frmS z) (4 * R) (by omega); have : (frmS z).size ≤ 123 := hfs; omega
        have HE := Lib.hid (fun w => sHe_any (padS (frmS z) (4 * R)) w (by omega))
        rw [hB] at HE
        obtain ⟨F, hF⟩ : ∃ F, frmS z = F := ⟨_, rfl⟩
        rw [hF] at HF HP HE
        obtain ⟨P, hP⟩ : ∃ P, padS F (4 * R) = P := ⟨_, rfl⟩
        rw [hP] at HP HE
        obtain ⟨N, hN⟩ : ∃ N, 4 * R = N := ⟨_, rfl⟩
        rw [hN] at HP
        have v1 : (4 : Int) * (R : Int) = (N : Int) := by omega
        obtain ⟨V, hV⟩ : ∃ V, weaveS B R C = V := ⟨_, rfl⟩
        rw [hV] at HW HS HX
        obtain ⟨Q, hQ⟩ : ∃ Q, (scrAns V S T X).1 = Q := ⟨_, rfl⟩
        rw [hQ] at HS HX
        have n2 : B.toList.isEmpty = false := by
          rw [ByteArray.toList_eq, List.isEmpty_eq_false_iff]
          intro h
          have e1 : B.size = B.data.toList.length := by show B.data.size = _; rw [Array.length_toList]
          rw [h] at e1
          have e2 : B.size = 0 := e1
          omega
        clear hz hf hv hfs hX hA hF hP hN hV hQ hB hB0 hBs hB6 hBC hBb hwz hPs
        go_enter Tryd.func8, Tryd.ntmps8
        go_wp2_with fail
        refine (HF.out _).mono ?_
        rintro e w1 ⟨rfl, hb1⟩
        have r1 := r0.below hb1 (by simp)
        have b1 := below_then b0 (Nat.le_refl _) hb1
        obtain ⟨c0, c1, c2, -⟩ := id r1
        clear hb1 b0 r0
        go_wp2_with fail
        refine (HI.out _).mono ?_
        rintro e w' ⟨rfl, rfl⟩
        go_wp2_with fail
        refine (HG.out _).mono ?_
        rintro e w2 ⟨rfl, hb2⟩
        have b2 := below_then b1 (Nat.le_refl _) hb2
        have r2 := r1.below hb2 r1.2.2.2
        clear hb2 b1 c0 c1 c2 r1
        go_wp2_with fail
        refine (HP.out _).mono ?_
        rintro e w' ⟨rfl, rfl⟩
        go_wp2_with fail
        refine (HE.out _).mono ?_
        rintro e w3 ⟨rfl, hb3⟩
        have b3 := below_then b2 (Nat.le_refl _) hb3
        have r3 := r2.below hb3 r2.2.2.2
        clear hb3 b2 r2
        obtain ⟨c0, c1, c2, cl⟩ := id r3
        obtain ⟨e0, e1, e2, el⟩ := r3.below (Below.refl w3.heap.size w3).drew r3.2.2.2
        go_wp2_with fail
        go_region_held3 (fun wx => wx.cell? ⟨w.heap.size, 0, none⟩ = some (.int .i64 S) ∧ wx.cell? ⟨w.heap.size, 1, none⟩ = some (.int .i64 T) ∧ wx.cell? ⟨w.heap.size, 2, none⟩ = some (.int .i64 X)) (first | exact ⟨n0, n1, n2⟩ | exact ⟨m0, m1, m2⟩ | exact ⟨e0, e1, e2⟩) (first
          | (go_at_call 27; refine (HW.out _).mono ?_; rintro e w5 ⟨rfl, hb5⟩; have r5 := (r3.below (Below.refl w3.heap.size w3).drew r3.2.2.2).below hb5 (by simpa using cl); have b5 := below_then b3.drew (Nat.le_refl _) hb5; obtain ⟨m0, m1, m2, ml⟩ := id r5)
          | (go_at_call 26; refine (HS.out _).mono ?_; rintro e w6 ⟨rfl, hb6⟩; have r6 := r5.below hb6 r5.2.2.2; have b6 := below_then b5 (Nat.le_refl _) hb6; obtain ⟨n0, n1, n2, nl⟩ := id r6))
        clear c0 c1 c2 cl e0 e1 e2 el m0 m1 m2 ml n0 n1 n2 nl r3 r5 r6
        go_wp2
        go_ret2
        exact ⟨ret_sA HX.out, b6⟩
    · have HX := Lib.hid (pp_rows (z := z) (S := S) (T := T) (X := X) hn)
      have hb : (decide (1 ≤ n) && decide (n ≤ 40)) = false := by
        rw [Bool.and_eq_false_iff, decide_eq_false_iff_not, decide_eq_false_iff_not]; omega
      rw [hb] at HI
      obtain ⟨F, hF⟩ : ∃ F, frmS z = F := ⟨_, rfl⟩
      rw [hF] at HF
      clear hz hf hb hn hfs hF r0
      go_enter Tryd.func8, Tryd.ntmps8
      go_wp2_with fail
      refine (HF.out _).mono ?_
      rintro e w1 ⟨rfl, hb1⟩
      have b1 := below_then b0 (Nat.le_refl _) hb1
      clear hb1 b0
      go_wp2_with fail
      refine (HI.out _).mono ?_
      rintro e w' ⟨rfl, rfl⟩
      go_wp2
      go_ret2
      exact ⟨ret_sA HX.out, b1⟩
set_option maxHeartbeats 1600000 in
set_option maxRecDepth 100000 in
theorem fnExactProtectPayload_walk (z : ByteArray) (n S T X : Int) (w : World) (hz : z.size ≤ maxLen) (_ : (Lit.int .i64 n).wf = true) (_ : (Lit.int .i64 S).wf = true) (_ : (Lit.int .i64 T).wf = true) (_ : (Lit.int .i64 X).wf = true) (hp : PlacesAt w) (h0 : 0 < w.heap.size) :
    Calls Tryd.prog 3 #[.string z, .int .i64 n, .agg #[.int .i64 S, .int .i64 T, .int .i64 X]] w fun e w' => e = .returned (.bool true) ∧ Below w.heap.size w w' := by
  unfold maxLen at hz
  have r0 := RegAt.new w 23 S T X
  have b0 : Below w.heap.size w (w.alloc (.cells #[.int .i64 S, .int .i64 T, .int .i64 X] 23)) := (Below.refl _ _).alloc (Nat.le_refl _) _
  by_cases hl : 1048576 < z.size
  · go_enter Tryd.func3, Tryd.ntmps3
    go_wp2
    go_ret
    exact ⟨rfl, b0⟩
  · have hs := fun w => sPrt_any z n S T X w (by omega)
    have hi := fun w1 (b1 : Below w.heap.size w w1) => iPrt_any z n S T X w1 (by omega) (PlacesAt.below hp h0 b1) (Nat.lt_of_lt_of_le h0 b1.size)
    obtain ⟨R, hR⟩ : ∃ R, ppAns z n S T X = R := ⟨_, rfl⟩
    simp only [hR] at hs hi
    obtain ⟨Z, ok⟩ := R
    clear hR hp h0
    have HS := Lib.hid hs
    have HI := Lib.hid hi
    obtain ⟨c0, c1, c2, cl⟩ := id r0
    clear hs hi
    go_enter Tryd.func3, Tryd.ntmps3
    go_wp2_with fail
    refine (toRegister_any S T X _).mono ?_
    rintro e w1 ⟨rfl, hb1⟩
    have r1 := r0.below hb1 (by simp)
    have b1 := below_then b0 (Nat.le_refl _) hb1
    clear hb1 b0 r0 c0 c1 c2 cl
    go_wp2_with fail
    refine (HS.out _).mono ?_
    rintro e w2 ⟨rfl, hb2⟩
    have r2 := r1.below hb2 r1.2.2.2
    have b2 := below_then b1 (Nat.le_refl _) hb2
    clear hb2 r1 b1
    obtain ⟨c0, c1, c2, cl⟩ := id r2
    go_wp2_with fail
    clear c0 c1 c2 cl
    refine (toRegister_any S T X _).mono ?_
    rintro e w3 ⟨rfl, hb3⟩
    have b3 := below_then b2 (Nat.le_refl _) hb3
    clear hb3 b2 r2
    go_wp2_with fail
    refine (HI.out _ b3).mono ?_
    rintro e w4 ⟨rfl, hb4⟩
    have b4 := below_then b3 (Nat.le_refl _) hb4
    clear hb4 b3 HS HI
    cases ok
    all_goals
      go_wp2
      go_ret
      exact ⟨rfl, b4⟩
end Go.Proofs.YtabokoodpobnnaaDoor
namespace Go.Proofs.YtabokoodpobnnaaDoor
open Go.RowKit
set_option linter.unusedVariables false
set_option maxRecDepth 100000
def zroS (n : Nat) : ByteArray := strF n (fun _ => 48)
theorem zroS_size (n : Nat) : (zroS n).size = n := strF_size _ _
theorem zb_zroS {n i : Nat} (h : i < n) : zb (zroS n) i = 48 := zb_strF h (by decide)
theorem zroS_ok (n : Nat) : okB (zroS n) (zroS n).size = true := okB_of_zb _ fun i hi => by rw [zroS_size] at hi; left; exact zb_zroS hi
end Go.Proofs.YtabokoodpobnnaaDoor
namespace Go.Proofs.YtabokoodpobnnaaDoor
open Go.RowKit
set_option linter.unusedVariables false
set_option maxRecDepth 100000
theorem num_dig (n : Nat) (h : n < 128) : numF (digF n 7) 7 = n := by
  show 2 * (2 * (2 * (2 * (2 * (2 * (2 * 0 + (48 + n / 64 % 2 - 48)) + (48 + n / 32 % 2 - 48)) + (48 + n / 16 % 2 - 48)) + (48 + n / 8 % 2 - 48)) + (48 + n / 4 % 2 - 48)) + (48 + n / 2 % 2 - 48)) + (48 + n / 1 % 2 - 48) = n
  omega
theorem zb_frm_num {z : ByteArray} {i : Nat} (hi : i < 7) : zb (frmS z) (8 + i) = digF z.size 7 i := by
  have s8 : (⟨#[49, 49, 49, 48, 49, 48, 48, 48]⟩ : ByteArray).size = 8 := rfl
  unfold frmS
  rw [zb_append_left _ _ _ (by rw [ByteArray.size_append, innS_size, s8]; omega), zb_append_right _ _ _ (by rw [s8]; omega) (by rw [innS_size, s8]; omega), s8, Nat.add_sub_cancel_left]
  unfold innS
  rw [zb_append_left _ _ _ (by rw [digS_size]; exact hi)]
  exact zb_strF hi (digF_lt _ _ _)
theorem zb_frm_pay {z : ByteArray} {i : Nat} (hi : i < z.size) : zb (frmS z) (15 + i) = zb z i := by
  have s8 : (⟨#[49, 49, 49, 48, 49, 48, 48, 48]⟩ : ByteArray).size = 8 := rfl
  unfold frmS
  rw [zb_append_left _ _ _ (by rw [ByteArray.size_append, innS_size, s8]; omega), zb_append_right _ _ _ (by rw [s8]; omega) (by rw [innS_size, s8]; omega), s8, show 15 + i - 8 = 7 + i by omega]
  unfold innS
  rw [zb_append_right _ _ _ (by rw [digS_size]; omega) (by rw [digS_size]; omega), digS_size, Nat.add_sub_cancel_left]
/-- A frame that stands in bits is read. -/
theorem hit_frame {P G : ByteArray} {m : Nat} (h100 : P.size ≤ 100) (hG : m + (23 + P.size) ≤ G.size) (hz : ∀ i, i < 23 + P.size → zb G (m + i) = zb (frmS P) i) :
    hitB G m = true ∧ parP G m = P ∧ nAt G m = P.size := by
  have hn : nAt G m = P.size := by
    have e : nAt G m = numF (digF P.size 7) 7 := numF_congr 7 fun i hi => by
      show zb G (m + 8 + i) = _
      rw [Nat.add_assoc, hz (8 + i) (by omega), zb_frm_num hi]
    rw [e, num_dig _ (by omega)]
  have hp : parP G m = P := by
    unfold parP
    rw [hn]
    have s := size_extract G (m + 15) (m + 15 + P.size) (by omega)
    refine ba_ext (by rw [s]; omega) fun i hi => ?_
    rw [s] at hi
    rw [zb_extract _ _ _ _ (by omega) (by omega), Nat.add_assoc, hz (15 + i) (by omega), zb_frm_pay (by omega)]
  refine ⟨(hitB_iff G m).2 ⟨by omega, by omega, by omega, ?_⟩, hp, hn⟩
  rw [hp, hn]
  have s := size_extract G m (m + 23 + P.size) (by omega)
  refine ba_ext (by rw [s, frmS_size]; omega) fun i hi => ?_
  rw [frmS_size] at hi
  rw [zb_extract _ _ _ _ (by omega) (by omega), hz i hi]
theorem zb_three {Z F : ByteArray} {i : Nat} (hi : i < F.size) : zb ((Z ++ F) ++ Z) (Z.size + i) = zb F i := by
  rw [zb_append_left _ _ _ (by rw [ByteArray.size_append]; omega), zb_append_right _ _ _ (by omega) (by omega), Nat.add_sub_cancel_left]
/-- A frame without its last bit is none. -/
theorem hit_short {P : ByteArray} (h100 : P.size ≤ 100) : hitB ((frmS P).extract 0 (22 + P.size)) 0 = false := by
  have hs : ((frmS P).extract 0 (22 + P.size)).size = 22 + P.size := by rw [size_extract _ _ _ (by rw [frmS_size]; omega)]; omega
  have hn : nAt ((frmS P).extract 0 (22 + P.size)) 0 = P.size := by
    have e : nAt ((frmS P).extract 0 (22 + P.size)) 0 = numF (digF P.size 7) 7 := numF_congr 7 fun i hi => by
      show zb ((frmS P).extract 0 (22 + P.size)) (0 + 8 + i) = _
      rw [zb_extract _ _ _ _ (by rw [frmS_size]; omega) (by omega), show 0 + (0 + 8 + i) = 8 + i by omega, zb_frm_num hi]
    rw [e, num_dig _ (by omega)]
  apply hit_no
  rintro ⟨_, _, h3, _⟩
  rw [hn, hs] at h3
  omega
end Go.Proofs.YtabokoodpobnnaaDoor
namespace Go.Proofs.YtabokoodpobnnaaDoor
open Go.RowKit
set_option linter.unusedVariables false
set_option maxRecDepth 100000
/-- A string with the bits changed that a set names. -/
def flipD (z : ByteArray) (D : Nat → Bool) : ByteArray := strF z.size (fun i => if D i then 97 - zb z i else zb z i)
theorem flipD_size (z : ByteArray) (D : Nat → Bool) : (flipD z D).size = z.size := strF_size _ _
theorem zb_flipD {z : ByteArray} {D : Nat → Bool} {i : Nat} (hi : i < z.size) : zb (flipD z D) i = if D i then 97 - zb z i else zb z i := by
  have := zb_lt z i
  exact zb_strF (f := fun i => if D i then 97 - zb z i else zb z i) hi (by show (if D i then 97 - zb z i else zb z i) < 256; split <;> omega)
theorem flipD_ok {z : ByteArray} (h : okB z z.size = true) (D : Nat → Bool) : okB (flipD z D) (flipD z D).size = true := okB_of_zb _ fun i hi => by
  rw [flipD_size] at hi
  rw [zb_flipD hi]
  rcases okB_zb z h i hi with e | e <;> rw [e] <;> split <;> simp
theorem flipD_none {z : ByteArray} {D : Nat → Bool} (h : ∀ i, D i = false) : flipD z D = z := (strF_of _ _ _ rfl fun i hi => by rw [h i]; rfl).symm
theorem flipD_congr {z : ByteArray} {D E : Nat → Bool} (h : ∀ i, i < z.size → D i = E i) : flipD z D = flipD z E := strF_congr fun i hi => by rw [h i hi]
theorem flipD_flip {z : ByteArray} {D E : Nat → Bool} {k : Nat} (hk : D k = false) (h : ∀ i, E i = (D i || decide (i = k))) : flipS (flipD z D) k = flipD z E := by
  refine strF_of _ _ _ (by rw [flipS_size, flipD_size]) fun i hi => ?_
  rw [zb_flipS (by rw [flipD_size]; exact hi), zb_flipD hi, h i]
  by_cases e : i = k
  · subst e; rw [hk]; simp
  · rw [if_neg e, decide_eq_false e, Bool.or_false]
/-- Changed bits stay so under a sum. -/
theorem add_flip {V K : ByteArray} {D : Nat → Bool} (hv : okB V V.size = true) (hk : okB K K.size = true) (hs : K.size = V.size) : addS (flipD (addS V K) D) K = flipD V D := by
  have e1 : (addS V K).size = V.size := addS_size _ _
  refine strF_of _ _ _ (by rw [addS_size, flipD_size, e1]) fun i hi => ?_
  rw [zb_addS _ _ _ (by rw [flipD_size, e1]; exact hi), zb_flipD (by rw [e1]; exact hi), zb_addS _ _ _ hi]
  rcases okB_zb V hv i hi with a | a <;> rcases okB_zb K hk i (by omega) with b | b <;> rw [a, b] <;> cases D i <;> decide
theorem place_back {R C i : Nat} (h1 : 1 ≤ R) (hi : i < R * C) : i % C * R + i / C < R * C ∧ (i % C * R + i / C) % R * C + (i % C * R + i / C) / R = i := by
  have hC : 0 < C := Nat.pos_of_ne_zero fun h => by rw [h, Nat.mul_zero] at hi; omega
  have hq : i / C < R := (Nat.div_lt_iff_lt_mul hC).2 hi
  have hr : i % C < C := Nat.mod_lt _ hC
  have e1 : (i % C * R + i / C) % R = i / C := by rw [Nat.mul_comm, Nat.mul_add_mod]; exact Nat.mod_eq_of_lt hq
  have e2 : (i % C * R + i / C) / R = i % C := by rw [Nat.mul_comm, Nat.mul_add_div (by omega), Nat.div_eq_of_lt hq, Nat.add_zero]
  refine ⟨?_, ?_⟩
  · have : (i % C + 1) * R ≤ C * R := Nat.mul_le_mul_right _ hr
    rw [Nat.add_mul, Nat.one_mul, Nat.mul_comm C R] at this
    omega
  · rw [e1, e2, Nat.mul_comm]; exact Nat.div_add_mod i C
theorem wv_size (z : ByteArray) (R C : Nat) : (weaveS z R C).size = z.size := strF_size _ _
theorem zb_wv {z : ByteArray} {R C i : Nat} (hi : i < z.size) : zb (weaveS z R C) i = zb z (i % R * C + i / R) := zb_strF (f := fun i => zb z (i % R * C + i / R)) hi (zb_lt _ _)
/-- Rows and columns turned back, with bits changed. -/
theorem weave_chg {B : ByteArray} {R C : Nat} (h1 : 1 ≤ R) (hs : B.size = R * C) (D : Nat → Bool) : weaveS (flipD (weaveS B R C) D) C R = flipD B (fun i => D (i % C * R + i / C)) := by
  have e1 : (weaveS B R C).size = B.size := strF_size _ _
  refine strF_of _ _ _ (by rw [wv_size, flipD_size, e1]) fun i hi => ?_
  obtain ⟨p1, p2⟩ := place_back h1 (show i < R * C by omega)
  rw [zb_wv (by rw [flipD_size, e1]; exact hi), zb_flipD (by rw [e1, hs]; exact p1), zb_wv (by rw [hs]; exact p1), p2]
/-- Blocks with one bit changed at most are decoded to the bits. -/
theorem hd_chg {z X : ByteArray} (hok : okB z z.size = true) (h4 : z.size % 4 = 0) (hX : okB X X.size = true) (hs : X.size = z.size / 4 * 7) (h6 : X.size ≤ 600) (kk : Nat → Nat) (hk : ∀ b, kk b ≤ 7) (hb : ∀ b, b < z.size / 4 → ∀ j, j < 7 → blkF X b j = chgF (encB z b) (kk b) j) :
    (hdAns X).1 = z ∧ (hdAns X).2.2 = true := by
  unfold hdAns
  rw [if_pos ⟨ppBits hX h6, by omega⟩, hs, show z.size / 4 * 7 / 7 = z.size / 4 by omega]
  refine ⟨?_, rfl⟩
  symm
  refine strF_of _ _ _ (by omega) fun i hi => ?_
  unfold decF
  rw [corF_congr (fun j hj => hb (i / 4) (by omega) j hj) (plF4_lt _), chg_cor (encB_bit hok (by omega)) (encB_syn hok (by omega)) (hk _) (plF4_lt _), encB_blk z _ (plF4_lt _), plF4_blk _ (by omega)]
  rw [show 4 * (i / 4) + i % 4 = i by omega]
/-- Of so many places one behind the other at most one lies in a block. -/
theorem one_hit {R a : Nat} {D : Nat → Bool} (h1 : 1 ≤ R) (hD : ∀ i, D i = true → a ≤ i ∧ i < a + R) (g r : Nat) : ∃ k, k ≤ 7 ∧ ∀ j, j < 7 → (D ((7 * g + j) * R + r) = true ↔ j + 1 = k) := by
  by_cases h : ∃ j, j < 7 ∧ D ((7 * g + j) * R + r) = true
  · obtain ⟨j0, hj0, hd0⟩ := h
    refine ⟨j0 + 1, by omega, fun j hj => ⟨fun hd => ?_, fun e => by rw [show j = j0 by omega]; exact hd0⟩⟩
    have b0 := hD _ hd0
    have b1 := hD _ hd
    rcases Nat.lt_trichotomy j j0 with h | h | h
    · exfalso
      have : (7 * g + j + 1) * R ≤ (7 * g + j0) * R := Nat.mul_le_mul_right _ (by omega)
      rw [Nat.add_mul (7 * g + j) 1 R, Nat.one_mul] at this
      omega
    · omega
    · exfalso
      have : (7 * g + j0 + 1) * R ≤ (7 * g + j) * R := Nat.mul_le_mul_right _ (by omega)
      rw [Nat.add_mul (7 * g + j0) 1 R, Nat.one_mul] at this
      omega
  · refine ⟨0, by omega, fun j hj => ⟨fun hd => absurd ⟨j, hj, hd⟩ h, fun e => by omega⟩⟩
theorem weave_ok {B : ByteArray} {R C : Nat} (h1 : 1 ≤ R) (hs : B.size = R * C) (ho : okB B B.size = true) : okB (weaveS B R C) (weaveS B R C).size = true := okB_of_zb _ fun i hi => by
  have hsz : (weaveS B R C).size = B.size := strF_size _ _
  rw [hsz] at hi
  have hlt : i % R * C + i / R < B.size := by
    have hq : i / R < C := (Nat.div_lt_iff_lt_mul (by omega)).2 (by rw [Nat.mul_comm]; omega)
    have hr : i % R < R := Nat.mod_lt _ (by omega)
    have : (i % R + 1) * C ≤ R * C := Nat.mul_le_mul_right _ hr
    rw [Nat.add_mul, Nat.one_mul] at this
    omega
  rw [zb_wv hi]
  exact okB_zb B ho _ hlt
theorem blk_place {M b j : Nat} (hM : 0 < M) (hj : j < 7) : (7 * b + j) % (7 * M) = 7 * (b % M) + j ∧ (7 * b + j) / (7 * M) = b / M := by
  have hr : b % M < M := Nat.mod_lt _ hM
  have e : 7 * b + j = 7 * M * (b / M) + (7 * (b % M) + j) := by
    have := Nat.div_add_mod b M
    rw [Nat.mul_assoc]
    omega
  have hl : 7 * (b % M) + j < 7 * M := by omega
  rw [e, Nat.mul_add_mod, Nat.mul_add_div (by omega), Nat.mod_eq_of_lt hl, Nat.div_eq_of_lt hl]
  exact ⟨rfl, rfl⟩
theorem prot7 {z : ByteArray} (h : payB z = true) {R : Nat} (h1 : 1 ≤ R) (h2 : R ≤ 40) : ∃ m, (padS (frmS z) (4 * R)).size = 4 * (R * m) ∧ 0 < m ∧ R * m * 7 ≤ 600 ∧ okB (padS (frmS z) (4 * R)) (padS (frmS z) (4 * R)).size = true := by
  obtain ⟨ho, h100⟩ := pay_of h
  have hs := frmS_size z
  obtain ⟨m, hm⟩ := pad_dvd (frmS z).size (4 * R) (by omega)
  have hl := modN_lt (-((frmS z).size : Int)) (4 * R) (by omega)
  have hps : (padS (frmS z) (4 * R)).size = 4 * (R * m) := by
    unfold padS
    rw [ByteArray.size_append, many_byte_size, hm, Nat.mul_assoc]
  have hsum : (padS (frmS z) (4 * R)).size = (frmS z).size + modN (-((frmS z).size : Int)) (4 * R) := by
    unfold padS
    rw [ByteArray.size_append, many_byte_size]
  refine ⟨m, hps, Nat.pos_of_ne_zero fun e => ?_, by omega, okApp (frmS_ok ho) (ppMany48 _)⟩
  rw [e, Nat.mul_zero] at hps
  omega
/-- A burst of so many wrong bits as there are rows is corrected. -/
theorem burst {z : ByteArray} (hz : payB z = true) {R : Nat} (h1 : 1 ≤ R) (h2 : R ≤ 40) {S T X : Int} (hr : regB S T X = true) :
    ∃ s : ByteArray, ppAns z R S T X = (s, true) ∧ 0 < s.size ∧ s.size ≤ 600 ∧ s.size % (7 * R) = 0 ∧ okB s s.size = true ∧ ∀ (D : Nat → Bool) (a : Nat), (∀ i, D i = true → a ≤ i ∧ i < a + R) → opAns (flipD s D) R S T X = (z, true) := by
  obtain ⟨m, hps, hm, h6, hpo⟩ := prot7 hz h1 h2
  obtain ⟨ho, h100⟩ := pay_of hz
  have hfr : ∀ i, i < 23 + z.size → zb (padS (frmS z) (4 * R)) (0 + i) = zb (frmS z) i := fun i hi => by
    rw [Nat.zero_add]; exact zb_append_left _ _ _ (by rw [frmS_size]; exact hi)
  have hfs : (frmS z).size ≤ (padS (frmS z) (4 * R)).size := by unfold padS; rw [ByteArray.size_append]; omega
  rw [frmS_size] at hfs
  obtain ⟨g1, g2, g3⟩ := hit_frame (P := z) (G := padS (frmS z) (4 * R)) (m := 0) h100 (by omega) hfr
  have hB : heAns (padS (frmS z) (4 * R)) = (strF ((padS (frmS z) (4 * R)).size / 4 * 7) (encF (padS (frmS z) (4 * R))), true) := by
    unfold heAns; rw [if_pos ⟨ppBits hpo (by omega), by omega, by omega⟩]
  have hpar : (parAns (padS (frmS z) (4 * R)) 0).1 = z ∧ (parAns (padS (frmS z) (4 * R)) 0).2.2 = true := by
    have := par_yes (z := padS (frmS z) (4 * R)) (a := 0) (ppBits hpo (by omega)) g1
    rw [g2] at this
    rw [show ((0 : Nat) : Int) = 0 from rfl] at this
    rw [this]; exact ⟨rfl, rfl⟩
  obtain ⟨P, hP⟩ : ∃ P, padS (frmS z) (4 * R) = P := ⟨_, rfl⟩
  rw [hP] at hB hpar hps hpo
  clear g1 g2 g3 hfr hfs
  have hP4 : P.size / 4 = R * m := by omega
  rw [hP4] at hB
  obtain ⟨B, hBB⟩ : ∃ B, strF (R * m * 7) (encF P) = B := ⟨_, rfl⟩
  have hBs : B.size = R * (7 * m) := by rw [← hBB, strF_size, Nat.mul_assoc, Nat.mul_comm m 7]
  have hBs' : B.size = P.size / 4 * 7 := by rw [← hBB, strF_size, hP4]
  have hBz : ∀ b, b < R * m → ∀ j, j < 7 → zb B (7 * b + j) = encB P b j := fun b hb j hj => by
    rw [← hBB]; exact zb_strF (by omega) (encF_lt _ _)
  rw [hBB] at hB
  have hBo : okB B B.size = true := by have := (ppHe_ok (z := P)).1; rw [hB] at this; exact this
  have hC : B.size / R = 7 * m := by rw [hBs]; exact Nat.mul_div_cancel_left _ (by omega)
  have hB6 : B.size ≤ 600 := by rw [hBs']; omega
  obtain ⟨y1, y2⟩ := pp_yes hz h1 h2 hr (by rw [hP]; exact hB) hBs hC (ppBits hBo hB6)
  have hVo := weave_ok h1 hBs hBo
  have hVs : (weaveS B R (7 * m)).size = B.size := strF_size _ _
  obtain ⟨V, hV⟩ : ∃ V, weaveS B R (7 * m) = V := ⟨_, rfl⟩
  have hsc : ∀ U : ByteArray, okB U U.size = true → U.size = B.size → scrAns U S T X = (addS U (runS S.toNat T.toNat X.toNat B.size), true) := fun U hU hs => by
    unfold scrAns; rw [if_pos ⟨ppBits hU (by omega), hr⟩, hs]
  have hKs : (runS S.toNat T.toNat X.toNat B.size).size = B.size := runS_size _ _ _ _
  have hKo : okB (runS S.toNat T.toNat X.toNat B.size) (runS S.toNat T.toNat X.toNat B.size).size = true := runS_ok _ _ _ _
  obtain ⟨K, hK⟩ : ∃ K, runS S.toNat T.toNat X.toNat B.size = K := ⟨_, rfl⟩
  rw [hK] at hKs hKo
  simp only [hK] at hsc
  have hweave := fun D => weave_chg (B := B) (R := R) (C := 7 * m) h1 hBs D
  rw [hV] at y1 hVo hVs
  simp only [hV] at hweave
  rw [hsc V hVo hVs] at y1
  have hss : (addS V K).size = B.size := by rw [addS_size, hVs]
  have hso : okB (addS V K) (addS V K).size = true := addS_ok V K
  refine ⟨addS V K, y1, by rw [hss, hBs']; have := Nat.mul_pos (show 0 < R by omega) hm; omega, by omega, by rw [hss, hBs, show R * (7 * m) = 7 * R * m by rw [Nat.mul_comm 7 R, Nat.mul_assoc]]; exact Nat.mul_mod_right _ _, hso, ?_⟩
  intro D a hD
  have e1 : scrAns (flipD (addS V K) D) S T X = (flipD V D, true) := by
    rw [hsc _ (flipD_ok hso D) (by rw [flipD_size, hss]), add_flip hVo hKo (by omega)]
  have e2 : deintAns (flipD V D) R = (flipD B (fun i => D (i % (7 * m) * R + i / (7 * m))), true) := by
    have hfs : (flipD V D).size = R * (7 * m) := by rw [flipD_size, hVs, hBs]
    unfold deintAns
    rw [if_pos ((fitB_iff _ _).2 ⟨ppBits (flipD_ok hVo D) (by omega), by omega, by omega, by rw [Int.toNat_natCast, hfs]; exact Nat.mul_mod_right _ _⟩), Int.toNat_natCast, hfs, Nat.mul_div_cancel_left _ (show 0 < R by omega), hweave]
  have e3 := hd_chg (z := P) (X := flipD B (fun i => D (i % (7 * m) * R + i / (7 * m)))) hpo (by omega) (flipD_ok hBo _) (by rw [flipD_size, hBs']) (by rw [flipD_size]; omega)
    (fun b => Classical.choose (one_hit h1 hD (b % m) (b / m))) (fun b => (Classical.choose_spec (one_hit h1 hD (b % m) (b / m))).1) (fun b hb j hj => by
      have hh := (Classical.choose_spec (one_hit h1 hD (b % m) (b / m))).2 j hj
      generalize Classical.choose (one_hit h1 hD (b % m) (b / m)) = k at hh ⊢
      obtain ⟨p1, p2⟩ := blk_place (b := b) hm hj
      unfold blkF chgF
      rw [zb_flipD (by omega), p1, p2, hBz b (by omega) j hj]
      by_cases e : j + 1 = k
      · rw [if_pos (hh.2 e), if_pos e]
      · rw [if_neg (fun h => e (hh.1 h)), if_neg e])
  have key := ord4_yes (z := opZ (flipD (addS V K) D) R S T X) (ok := opK (flipD (addS V K) D) R S T X) (by
    show ((scrAns (flipD (addS V K) D) S T X).2 && (deintAns (scrAns (flipD (addS V K) D) S T X).1 R).2 && (hdAns (deintAns (scrAns (flipD (addS V K) D) S T X).1 R).1).2.2) = true
    simp only [e1, e2, e3.2, Bool.and_self])
  unfold opAns
  rw [key]
  show (if (parAns (hdAns (deintAns (scrAns (flipD (addS V K) D) S T X).1 R).1).1 0).2.2 = true then ((parAns (hdAns (deintAns (scrAns (flipD (addS V K) D) S T X).1 R).1).1 0).1, true) else noS) = (z, true)
  simp only [e1, e2, e3.1, hpar.1, hpar.2]
  rfl
end Go.Proofs.YtabokoodpobnnaaDoor
namespace Go.Proofs.YtabokoodpobnnaaDoor
open Go.RowKit
/-- A register was drawn, of numbers that fit; what was there is as it was. -/
def DrawReg (w : World) (e : Ending) (w' : World) : Prop :=
  ∃ S T X : Int, e = .returned (.agg #[.int .i64 S, .int .i64 T, .int .i64 X]) ∧ FitsI S ∧ FitsI T ∧ FitsI X ∧ Below w.heap.size w w'
end Go.Proofs.YtabokoodpobnnaaDoor
namespace Go.Proofs.YtabokoodpobnnaaDoor
open Go.RowKit
/-- A register and a number were drawn, which fit; what was there is as it was. -/
def DrawRegInt (w : World) (e : Ending) (w' : World) : Prop :=
  ∃ S T X K : Int, e = .returned (.tuple #[.agg #[.int .i64 S, .int .i64 T, .int .i64 X], .int .i64 K]) ∧ FitsI S ∧ FitsI T ∧ FitsI X ∧ FitsI K ∧ Below w.heap.size w w'
theorem RdAt.drew {w : World} {b p : Nat} {zs : List Int} (h : RdAt w b p zs) : RdAt w.drew b p zs := h.below ((Below.refl _ _).drew)
theorem IntsAt.drew {w : World} {L : Nat} {xs : List Int} (h : IntsAt w L xs) : IntsAt w.drew L xs := h
theorem grow_drew (w : World) (o : Obj) (row : Option Nat) : w.grownBy (w.alloc o).drew row := ⟨rfl, rfl, rfl, by simp, fun k hk _ => Below.heap_alloc _ _ _ hk⟩
theorem drew_grow (w : World) (row : Option Nat) : w.grownBy w.drew row := ⟨rfl, rfl, rfl, Nat.le_refl _, fun _ _ _ => rfl⟩
end Go.Proofs.YtabokoodpobnnaaDoor
namespace Go.Proofs.YtabokoodpobnnaaDoor
open Go.RowKit
set_option linter.unusedVariables false
set_option maxHeartbeats 1600000 in
set_option maxRecDepth 100000 in
theorem l1Open_any (b p : Nat) (zs : List Int) (w : World) (hr : RdAt w b p zs) (hp : p ≤ 800000) :
    Calls Tryd.prog 61 #[.pointer (some ⟨b, 0, none⟩)] w fun e w' => ∃ (S T X : Int) (q : Nat), e = .returned (.agg #[.int .i64 S, .int .i64 T, .int .i64 X]) ∧ FitsI S ∧ FitsI T ∧ FitsI X ∧ q ≤ p + 100 ∧ RdAt w' b q zs ∧ w.grownBy w' (some b) := by
  have hbl := hr.1
  go_enter Tryd.func61, Tryd.ntmps61
  go_wp2_with fail
  obtain ⟨W, hB, hD, hf, hz, hW⟩ := one_new w 26
  rw [hW]
  have hr' := hr.below hB
  clear hW
  refine (l1Some_any b p zs _ hr' (by omega)).mono ?_
  rintro e w1 ⟨s, t, x, q, rfl, hreg, hq, hr1, hg1⟩
  have hD1 := hD.kept hg1 (by simp; omega)
  have hf1 : Hid (∀ o, w1.frozen? ⟨w.heap.size, o, none⟩ = false) := fun o => frozen_kept' (hf o) hD.2.2.2 hg1 (by simp; omega)
  have hgw := (grow hB (some b)).trans hg1
  go_wp2_with fail
  refine (l1Bad_any b q zs s t x _ hr1 (by omega) hreg).mono ?_
  rintro e w2 ⟨S, T, X, q2, rfl, fS, fT, fX, hq2, hr2, hg2⟩
  have hD2 := hD1.kept hg2 (by simp; omega)
  have g0 := frozen_kept' (hf1.out 0) hD1.2.2.2 hg2 (by simp; omega)
  have g1 := frozen_kept' (hf1.out 1) hD1.2.2.2 hg2 (by simp; omega)
  have g2 := frozen_kept' (hf1.out 2) hD1.2.2.2 hg2 (by simp; omega)
  obtain ⟨d0, d1, d2, dl⟩ := hD2
  have hg3 := hgw.trans hg2
  clear hD hf hD1 hf1 hr1 hg1 hg2 hB hr hr' hgw
  go_wp2
  refine bodyPost_ret (v := .agg #[.int .i64 S, .int .i64 T, .int .i64 X]) (by simp [results, Tryd.results61, go_sem, d0, d1, d2]) rfl ⟨S, T, X, q2, rfl, fS, fT, fX, by omega, ((hr2.setNew hbl _).setNew hbl _).setNew hbl _, ((grown_setNew hg3 (Nat.le_refl _) _).trans ⟨rfl, rfl, rfl, Nat.le_refl _, fun _ _ _ => rfl⟩ |> fun h => grown_setNew h (Nat.le_refl _) _) |> fun h => grown_setNew h (Nat.le_refl _) _⟩
end Go.Proofs.YtabokoodpobnnaaDoor
namespace Go.Proofs.YtabokoodpobnnaaDoor
open Go.RowKit
set_option linter.unusedVariables false
set_option maxRecDepth 100000
def DrawPayReg (w : World) (e : Ending) (w' : World) : Prop := ∃ (z : ByteArray) (n S T X : Int), e = .returned (.tuple #[.string z, .int .i64 n, .agg #[.int .i64 S, .int .i64 T, .int .i64 X]]) ∧ z.size ≤ 700 ∧ Below w.heap.size w w'
set_option maxHeartbeats 1600000 in
theorem drawPay_any (a : Option Addr) (len cap : Nat) (zs : List Int) (w : World) (h : IsBytes w a len cap zs) :
    Calls Tryd.prog 21 #[.slice a len cap] w (DrawPayReg w) := by
  go_enter Tryd.func21, Tryd.ntmps21
  go_wp2_with fail
  obtain ⟨W, hB, hD, hf, hz, hW⟩ := one_new w 26
  rw [hW]
  clear hW
  have h' : IsBytes W a len cap zs := h.below hB
  refine (open_any a len cap zs _ h').mono ?_
  rintro e w1 ⟨b, ys, rfl, hr1, hb1, hlb⟩
  have b1 := below_then hB (Nat.le_refl _) hb1
  have hD1 := hD.below hb1 hD.2.2.2
  have HF1 : Hid (∀ o, w1.frozen? ⟨w.heap.size, o, none⟩ = false) := fun o => (hb1.frozen (p := ⟨w.heap.size, o, none⟩) hD.2.2.2).trans (hf o)
  have hlb' : w.heap.size < b := by omega
  clear hB hD hf h h' hb1 hlb hz
  have hlb : w.heap.size ≤ b := by omega
  go_wp2_with fail
  refine (l1String_any b 0 30 ys _ hr1 (by omega) (by omega)).mono ?_
  rintro e w2 ⟨z, q, rfl, hz, hq, hr2, hg2⟩
  have b2 := below_grown b1 (Nat.le_refl _) hg2 (by omega)
  have hD2 := hD1.kept hg2 (by simp; omega)
  have HF2 : Hid (∀ o, w2.frozen? ⟨w.heap.size, o, none⟩ = false) := fun o => frozen_kept' (HF1.out o) hD1.2.2.2 hg2 (by simp; omega)
  clear b1 hr1 hD1 HF1 hg2
  go_wp2_with fail
  refine (pick_any b q 12 ys _ hr2 (by omega) (by omega) (by omega)).mono ?_
  rintro e w3 ⟨k, hk, rfl, hr3, hg3⟩
  have b3 := below_grown b2 (Nat.le_refl _) hg3 (by omega)
  have hD3 := hD2.kept hg3 (by simp; omega)
  have HF3 : Hid (∀ o, w3.frozen? ⟨w.heap.size, o, none⟩ = false) := fun o => frozen_kept' (HF2.out o) hD2.2.2.2 hg3 (by simp; omega)
  clear b2 hr2 hD2 HF2 hg3
  go_wp2_with fail
  refine (l1Open_any b (q + 1) ys _ hr3 (by omega)).mono ?_
  rintro e w4 ⟨S, T, X, q4, rfl, fS, fT, fX, hq4, hr4, hg4⟩
  have b4 := below_grown b3 (Nat.le_refl _) hg4 (by omega)
  have hD4 := hD3.kept hg4 (by simp; omega)
  have HF4 : Hid (∀ o, w4.frozen? ⟨w.heap.size, o, none⟩ = false) := fun o => frozen_kept' (HF3.out o) hD3.2.2.2 hg4 (by simp; omega)
  clear b3 hr3 hD3 HF3 hg4
  have hb4 := hr4.1
  go_wp2_with fail
  obtain ⟨B, hBB⟩ : ∃ B, w4.heap.size = B := ⟨_, rfl⟩
  obtain ⟨V, bc, hX, hr, hD, HF, hVs, hV⟩ : ∃ V, Below w.heap.size w V ∧ RegAt V B S T X ∧ RdAt V b q4 ys ∧ RegAt V w.heap.size 0 0 0 ∧ Hid (∀ o, V.frozen? ⟨w.heap.size, o, none⟩ = false) ∧ V.heap.size = B + 1 ∧ w4.alloc (.cells #[.int .i64 S, .int .i64 T, .int .i64 X] 26) = V := by
    subst hBB
    exact ⟨_, b4.alloc b4.size _, RegAt.new w4 _ S T X, hr4.alloc _, hD4.below ((Below.refl _ _).alloc (Nat.le_refl _) _) hD4.2.2.2, Lib.hid (fun o => (((Below.refl w4.heap.size w4).alloc (Nat.le_refl _) _).frozen (p := ⟨w.heap.size, o, none⟩) hD4.2.2.2).trans (HF4.out o)), World.size_alloc _ _, rfl⟩
  rw [hV]
  have hbB : b < B := by omega
  have haB : w.heap.size < B := by have := hD4.2.2.2; omega
  rw [hBB]
  clear hV b4 hr4 hD4 HF4 hBB hb4 w4
  refine (pick_any b q4 16 ys _ hr (by omega) (by omega) (by omega)).mono ?_
  rintro e w5 ⟨k5, hk5, rfl, hr5, hg5⟩
  clear hr
  have hr := hr5
  clear hr5
  have bc2 := below_grown bc (Nat.le_refl _) hg5 hlb
  have hX2 := hX.kept hg5 (by simp; omega)
  have hD2 := hD.kept hg5 (by simp; omega)
  have HF2 : Hid (∀ o, _ = false) := Lib.hid (fun o => frozen_kept' (HF.out o) hD.2.2.2 hg5 (by simp; omega))
  clear bc hX hD HF
  have bc := bc2
  have hX := hX2
  have hD := hD2
  have HF := HF2
  clear bc2 hX2 hD2 HF2 hg5
  by_cases k0 : k5 = 0
  · subst k0
    clear hk5
    go_wp2_with fail
    refine (num_any b (q4 + 1) ys _ w5.heap.size 4 [0, 40, 41, -1] (hr.alloc _) (IntsAt.new w5 _ [0, 40, 41, -1]) rfl hr.1 (by omega) (by omega) (by omega)).mono ?_
    rintro e w6 ⟨v, hv, rfl, hr6, hg6'⟩
    have hg6 := (World.grownBy_alloc w5 (.cells #[.int .i64 0, .int .i64 40, .int .i64 41, .int .i64 (-1)] 3) (some b)).trans hg6'
    clear hr hg6' hv
    have hr := hr6
    clear hr6
    have bc2 := below_grown bc (Nat.le_refl _) hg6 hlb
    have hX2 := hX.kept hg6 (by simp; omega)
    have hD2 := hD.kept hg6 (by simp; omega)
    have HF2 : Hid (∀ o, _ = false) := Lib.hid (fun o => frozen_kept' (HF.out o) hD.2.2.2 hg6 (by simp; omega))
    clear bc hX hD HF
    have bc := bc2
    have hX := hX2
    have hD := hD2
    have HF := HF2
    clear bc2 hX2 hD2 HF2 hg6
    obtain ⟨d0, d1, d2, dl⟩ := id hX
    obtain ⟨e0, e1, e2, el⟩ := id hD
    have f0 := HF.out 0
    have f1 := HF.out 1
    have f2 := HF.out 2
    have b9 := Lib.hid (((bc.drew.setCell (p := ⟨w.heap.size, 0, none⟩) (Nat.le_refl _) (.int .i64 S)).setCell (p := ⟨w.heap.size, 1, none⟩) (Nat.le_refl _) (.int .i64 T)).setCell (p := ⟨w.heap.size, 2, none⟩) (Nat.le_refl _) (.int .i64 X))
    clear bc HF hr hX hD
    go_wp2_with fail
    go_region
    go_wp2
    refine bodyPost_ret (v := .tuple #[.string z, .int .i64 v, .agg #[.int .i64 S, .int .i64 T, .int .i64 X]]) (by simp [results, Tryd.results21, go_sem, e0, e1, e2]) rfl ?_
    exact ⟨_, _, S, T, X, rfl, by omega, b9.out⟩
  · have e0 : ((k5 : Int) == 0) = false := by rw [beq_eq_false_iff_ne]; omega
    by_cases k1 : k5 = 1
    · subst k1
      clear hk5 k0 e0
      go_wp2_with fail
      refine (num_any b (q4 + 1) ys _ w5.heap.size 2 [100, 101] (hr.alloc _) (IntsAt.new w5 _ [100, 101]) rfl hr.1 (by omega) (by omega) (by omega)).mono ?_
      rintro e w6 ⟨v, hv, rfl, hr6, hg6'⟩
      obtain ⟨s, rfl, hs6⟩ : ∃ s : Nat, v = s ∧ s ≤ 101 := by
        simp only [List.mem_cons, List.not_mem_nil, or_false] at hv
        exact ⟨v.toNat, by omega, by omega⟩
      have hg6 := (World.grownBy_alloc w5 (.cells #[.int .i64 100, .int .i64 101] 3) (some b)).trans hg6'
      have hM := fun w => l9Many_any ⟨#[49]⟩ s w (by show 1 * s ≤ _; omega) (by omega)
      have hsz := many_byte_size 49 s
      obtain ⟨Z, hZ⟩ : ∃ Z, many ⟨#[49]⟩ s = Z := ⟨_, rfl⟩
      rw [hZ] at hM hsz
      have HM := Lib.hid hM
      clear hr hg6' hv hM hZ
      have hr := hr6
      clear hr6
      have bc2 := below_grown bc (Nat.le_refl _) hg6 hlb
      have hX2 := hX.kept hg6 (by simp; omega)
      have hD2 := hD.kept hg6 (by simp; omega)
      have HF2 : Hid (∀ o, _ = false) := Lib.hid (fun o => frozen_kept' (HF.out o) hD.2.2.2 hg6 (by simp; omega))
      clear bc hX hD HF
      have bc := bc2
      have hX := hX2
      have hD := hD2
      have HF := HF2
      clear bc2 hX2 hD2 HF2 hg6
      go_wp2_with fail
      refine (HM.out _).mono ?_
      rintro e w' ⟨rfl, rfl⟩
      obtain ⟨d0, d1, d2, dl⟩ := id hX
      obtain ⟨e0, e1, e2, el⟩ := id hD
      have f0 := HF.out 0
      have f1 := HF.out 1
      have f2 := HF.out 2
      have b9 := Lib.hid (((bc.drew.setCell (p := ⟨w.heap.size, 0, none⟩) (Nat.le_refl _) (.int .i64 S)).setCell (p := ⟨w.heap.size, 1, none⟩) (Nat.le_refl _) (.int .i64 T)).setCell (p := ⟨w.heap.size, 2, none⟩) (Nat.le_refl _) (.int .i64 X))
      clear bc HF hr hX hD
      go_wp2_with fail
      go_region
      go_wp2
      refine bodyPost_ret (v := .tuple #[.string Z, .int .i64 (1 + (k : Int)), .agg #[.int .i64 S, .int .i64 T, .int .i64 X]]) (by simp [results, Tryd.results21, go_sem, e0, e1, e2]) rfl ?_
      exact ⟨_, _, S, T, X, rfl, by omega, b9.out⟩
    · have e1 : ((k5 : Int) == 1) = false := by rw [beq_eq_false_iff_ne]; omega
      clear hk5 k0 k1
      obtain ⟨d0, d1, d2, dl⟩ := id hX
      obtain ⟨e0, e1, e2, el⟩ := id hD
      have f0 := HF.out 0
      have f1 := HF.out 1
      have f2 := HF.out 2
      have b9 := Lib.hid (((bc.drew.setCell (p := ⟨w.heap.size, 0, none⟩) (Nat.le_refl _) (.int .i64 S)).setCell (p := ⟨w.heap.size, 1, none⟩) (Nat.le_refl _) (.int .i64 T)).setCell (p := ⟨w.heap.size, 2, none⟩) (Nat.le_refl _) (.int .i64 X))
      clear bc HF hr hX hD
      go_wp2_with fail
      go_region
      go_wp2
      refine bodyPost_ret (v := .tuple #[.string z, .int .i64 (1 + (k : Int)), .agg #[.int .i64 S, .int .i64 T, .int .i64 X]]) (by simp [results, Tryd.results21, go_sem, e0, e1, e2]) rfl ?_
      exact ⟨_, _, S, T, X, rfl, by omega, b9.out⟩
end Go.Proofs.YtabokoodpobnnaaDoor
namespace Go.Proofs.YtabokoodpobnnaaDoor
open Go.RowKit
set_option linter.unusedVariables false
set_option maxRecDepth 100000
/-- The places that the law changes before an index. -/
def dB (a L t i : Nat) : Bool := decide (a ≤ i) && decide (i < t) && (decide (i = a) || decide (0 < (i * i + L) % 3))
theorem dB_in {a L t R : Nat} (ht : t ≤ a + R) : ∀ i, dB a L t i = true → a ≤ i ∧ i < a + R := fun i h => by
  unfold dB at h
  simp only [Bool.and_eq_true, decide_eq_true_eq] at h
  omega
theorem dB_start (a L : Nat) : ∀ i, dB a L a i = false := fun i => by
  unfold dB
  by_cases h : a ≤ i
  · rw [decide_eq_false (show ¬ i < a by omega), Bool.and_false, Bool.false_and]
  · rw [decide_eq_false h, Bool.false_and, Bool.false_and]
theorem dB_at (a L t : Nat) : dB a L t t = false := by
  unfold dB
  rw [decide_eq_false (Nat.lt_irrefl t), Bool.and_false, Bool.false_and]
theorem dB_yes {a L t : Nat} (ha : a ≤ t) (h : t = a ∨ 0 < (t * t + L) % 3) : ∀ i, dB a L (t + 1) i = (dB a L t i || decide (i = t)) := fun i => by
  by_cases e : i = t
  · subst e
    rw [dB_at, decide_eq_true rfl]
    unfold dB
    rw [decide_eq_true ha, decide_eq_true (Nat.lt_succ_self i)]
    rcases h with h | h
    · rw [decide_eq_true h]; rfl
    · rw [decide_eq_true h]; simp
  · unfold dB
    rw [decide_eq_false e, Bool.or_false, show decide (i < t + 1) = decide (i < t) from by
      by_cases h : i < t
      · rw [decide_eq_true h, decide_eq_true (by omega)]
      · rw [decide_eq_false h, decide_eq_false (by omega)]]
theorem dB_no {a L t : Nat} (h1 : ¬ t = a) (h2 : (t * t + L) % 3 = 0) : ∀ i, dB a L (t + 1) i = dB a L t i := fun i => by
  by_cases e : i = t
  · subst e
    rw [dB_at]
    unfold dB
    rw [decide_eq_false h1, decide_eq_false (show ¬ 0 < (i * i + L) % 3 by omega)]
    simp
  · unfold dB
    rw [show decide (i < t + 1) = decide (i < t) from by
      by_cases h : i < t
      · rw [decide_eq_true h, decide_eq_true (by omega)]
      · rw [decide_eq_false h, decide_eq_false (by omega)]]
theorem tmod_nat (A m : Nat) : (A : Int).tmod (m : Int) = ((A % m : Nat) : Int) := by
  rw [Int.tmod_eq_emod_of_nonneg (by omega), Int.natCast_emod]
set_option maxHeartbeats 800000 in
theorem fnBurst_walk (a0 : Option Addr) (len0 cap0 : Nat) (z0 : List Int) (a1 : Option Addr) (len1 cap1 : Nat) (z1 : List Int) (w : World) (w0 : IsBytes w a0 len0 cap0 z0) (w1 : IsBytes w a1 len1 cap1 z1) (hp : PlacesAt w) (h0 : 0 < w.heap.size) :
    Calls Tryd.prog 7 #[.slice a0 len0 cap0, .slice a1 len1 cap1] w fun e w' => e = .returned (.bool true) ∧ Below w.heap.size w w' := by
  by_cases hl : 1048576 < len0
  · go_enter Tryd.func7, Tryd.ntmps7
    go_wp2
    go_ret
    exact ⟨rfl, Below.refl _ _⟩
  by_cases hl1 : 1048576 < len1
  · go_enter Tryd.func7, Tryd.ntmps7
    go_wp2
    go_ret
    exact ⟨rfl, Below.refl _ _⟩
  clear w1
  go_enter Tryd.func7, Tryd.ntmps7
  go_wp2_with fail
  refine (drawPay_any a0 len0 cap0 z0 _ w0).mono ?_
  rintro e W1 ⟨z, n, S, T, X, rfl, hz, b1⟩
  clear w0
  go_wp2_with fail
  obtain ⟨B, hBB⟩ : ∃ B, W1.heap.size = B := ⟨_, rfl⟩
  obtain ⟨V, bV, hX, hVs, hV⟩ : ∃ V, Below w.heap.size w V ∧ RegAt V B S T X ∧ V.heap.size = B + 1 ∧ W1.alloc (.cells #[.int .i64 S, .int .i64 T, .int .i64 X] 26) = V := by
    subst hBB
    exact ⟨_, b1.alloc b1.size _, RegAt.new W1 _ S T X, World.size_alloc _ _, rfl⟩
  rw [hV, hBB]
  have HP := Lib.hid (fun W (k : Below V.heap.size V W) => (⟨PlacesAt.below (PlacesAt.below hp h0 bV) (Nat.lt_of_lt_of_le h0 bV.size) k, Nat.lt_of_lt_of_le h0 (Nat.le_trans bV.size k.size), hX.below k hX.2.2.2, below_then bV (Nat.le_refl _) k⟩ : PlacesAt W ∧ 0 < W.heap.size ∧ RegAt W B S T X ∧ Below w.heap.size w W))
  have bc := Below.refl V.heap.size V
  clear hV hBB b1 bV hX hp h0 hVs W1
  obtain ⟨-, -, ⟨c0, c1, c2, -⟩, -⟩ := HP.out V bc
  have HI := Lib.hid (fun W (k : Below V.heap.size V W) => iPrt_any z n S T X W (by omega) (HP.out W k).1 (HP.out W k).2.1)
  have HS := Lib.hid (fun W => sPrt_any z n S T X W (by omega))
  by_cases hall : payB z = true ∧ (1 ≤ n ∧ n ≤ 40) ∧ regB S T X = true
  · obtain ⟨hz1, hn, hr⟩ := hall
    obtain ⟨R, rfl⟩ : ∃ R : Nat, n = R := ⟨n.toNat, by omega⟩
    obtain ⟨s, y1, s0, s6, s7, so, hop⟩ := burst hz1 (R := R) (by omega) (by omega) hr
    rw [y1] at HI HS
    obtain ⟨a, ha⟩ : ∃ a, 7 * len1 % s.size = a := ⟨_, rfl⟩
    have haN : a < s.size := by rw [← ha]; exact Nat.mod_lt _ s0
    have HO := Lib.hid (fun t (ht : t ≤ a + R) W (k : Below V.heap.size V W) => show Calls Tryd.prog 12 #[.string (flipD s (dB a len1 t)), .int .i64 R, .agg #[.int .i64 S, .int .i64 T, .int .i64 X]] W fun e w' => e = .returned (.tuple #[.string z, .bool true]) ∧ Below W.heap.size W w' by
      have := iOpn_any (flipD s (dB a len1 t)) R S T X W (by rw [flipD_size]; omega) (HP.out W k).1 (HP.out W k).2.1
      rw [hop (dB a len1 t) a (dB_in ht)] at this
      exact this)
    have hst := flipD_none (z := s) (dB_start a len1)
    have HO0 := Lib.hid (fun W k => HO.out a (by omega) W k)
    simp only [hst] at HO0
    have HST := Lib.hid hst
    have HF := Lib.hid (fun t (ht : t < s.size) (h1 : a ≤ t) (h : t = a ∨ 0 < (t * t + len1) % 3) W => show Calls Tryd.prog 19 #[.string (flipD s (dB a len1 t)), .int .i64 t] W fun e w' => e = .returned (.string (flipD s (dB a len1 (t + 1)))) ∧ Below W.heap.size W w' by
      have := ssFlip_any (flipD s (dB a len1 t)) t W (by rw [flipD_size]; exact ht) (okB_zb _ (flipD_ok so _) _ (by rw [flipD_size]; exact ht))
      rw [flipD_flip (dB_at a len1 t) (dB_yes h1 h)] at this
      exact this)
    have HN := Lib.hid (fun t (h1 : ¬ t = a) (h2 : (t * t + len1) % 3 = 0) => show flipD s (dB a len1 (t + 1)) = flipD s (dB a len1 t) from flipD_congr (fun i _ => dB_no h1 h2 i))
    obtain ⟨N, hN⟩ : ∃ N, s.size = N := ⟨_, rfl⟩
    have hNi : (s.size : Int) = (N : Int) := by omega
    obtain ⟨A, hA⟩ : ∃ A, 7 * len1 = A := ⟨_, rfl⟩
    obtain ⟨M, hM⟩ : ∃ A, 7 * R = A := ⟨_, rfl⟩
    rw [hN] at s0 s6 s7 haN HF
    have e1 : (7 : Int) * (len1 : Int) = (A : Int) := by omega
    have e2 : (A : Int).tmod (N : Int) = (a : Int) := by rw [tmod_nat, ← hA, ← hN, ha]
    have e3 : ¬ (N : Int) = 0 := by omega
    have e4 : ((N : Int) == 0) = false := beq_eq_false_iff_ne.2 e3
    have HE := Lib.hid (show (7 : Int) * (R : Int) = (M : Int) ∧ (N : Int).tmod (M : Int) = 0 ∧ ¬ (M : Int) = 0 ∧ ((M : Int) == 0) = false by
      refine ⟨by omega, ?_, by omega, beq_eq_false_iff_ne.2 (by omega)⟩
      rw [tmod_nat, ← hM, s7]; rfl)
    have hAb : A ≤ 7340032 := by omega
    have hRb : R ≤ 40 := by omega
    clear hz1 hn hr y1 ha so hop hst HO0 s7 hN hA hM hz
    have HO0 := Lib.hid (fun W k => HO.out a (by omega) W k)
    rw [HST.out] at HO0
    go_wp2_with fail
    refine (HI.out _ bc).mono ?_
    rintro e w2 ⟨rfl, hB2⟩
    have b2 := below_then bc (Nat.le_refl _) hB2
    clear bc hB2 c0 c1 c2
    obtain ⟨-, -, ⟨c0, c1, c2, -⟩, -⟩ := HP.out _ b2
    go_wp2_with fail
    refine (HS.out _).mono ?_
    rintro e w3 ⟨rfl, hB3⟩
    have b3 := below_then b2 (Nat.le_refl _) hB3
    clear b2 hB3 HI HS c0 c1 c2
    go_wp2
    clear e1 e2 e4
    go_loopw [12, 14] (fun x i wr => ∃ t : Nat, a ≤ t ∧ t ≤ a + R ∧ t ≤ N ∧ i = .int .i64 t ∧ x = .string (flipD s (dB a len1 t)) ∧ Below V.heap.size V wr) (fun _ i _ => N - (intOf i).toNat)
    case atStart => exact ⟨a, by omega, by omega, by omega, rfl, by rw [HST.out], b3⟩
    case round =>
      clear b3
      obtain ⟨t, t1, t2, t3, rfl, rfl, rb⟩ := hrel
      by_cases hlt : t < a + R ∧ t < N
      · obtain ⟨h1, h2⟩ := hlt
        have i1 : (t : Int) < (a : Int) + (R : Int) := by omega
        have i2 : (t : Int) < (N : Int) := by omega
        have HF1 := Lib.hid (fun h => HF.out t h2 t1 h)
        have HN1 := Lib.hid (fun h h' => HN.out t h h')
        obtain ⟨X1, hX1⟩ : ∃ X, flipD s (dB a len1 t) = X := ⟨_, rfl⟩
        obtain ⟨X2, hX2⟩ : ∃ X, flipD s (dB a len1 (t + 1)) = X := ⟨_, rfl⟩
        rw [hX1, hX2] at HF1 HN1
        rw [hX1]
        clear hX1
        by_cases hta : t = a
        · have hf := Lib.hid (HF1.out (Or.inl hta))
          subst hta
          clear HF1 HN1
          go_wp2_with fail
          refine (hf.out _).mono ?_
          rintro e w' ⟨rfl, hB⟩
          have d1 := below_then rb (Nat.le_refl _) hB
          clear hB rb hf
          go_wp2
          go_roundw
          case rel => exact ⟨t + 1, by omega, by omega, by omega, by go_num, by rw [hX2], d1⟩
          case measure => simp [intOf]; omega
        · have e5 : ((t : Int) == (a : Int)) = false := beq_eq_false_iff_ne.2 (by omega)
          obtain ⟨Q, hQ⟩ : ∃ Q, t * t = Q := ⟨_, rfl⟩
          have hQ9 : Q ≤ 360000 := by have := Nat.mul_le_mul (show t ≤ 600 by omega) (show t ≤ 600 by omega); omega
          have q1 : (t : Int) * (t : Int) = (Q : Int) := by rw [← hQ, Int.natCast_mul]
          rw [hQ] at HF1 HN1
          by_cases hk : 0 < (Q + len1) % 3
          · have hf := Lib.hid (HF1.out (Or.inr hk))
            obtain ⟨K, hK⟩ : ∃ K, (Q + len1) % 3 = K := ⟨_, rfl⟩
            have q2 : ((Q : Int) + (len1 : Int)) % 3 = (K : Int) := by omega
            have K0 : (0 : Int) < (K : Int) := by omega
            clear HF1 HN1 hQ hk hK
            go_wp2_with fail
            refine (hf.out _).mono ?_
            rintro e w' ⟨rfl, hB⟩
            have d1 := below_then rb (Nat.le_refl _) hB
            clear hB rb hf
            go_wp2
            go_roundw
            case rel => exact ⟨t + 1, by omega, by omega, by omega, by go_num, by rw [hX2], d1⟩
            case measure => simp [intOf]; omega
          · have hn1 := HN1.out hta (by omega)
            have q2 : ((Q : Int) + (len1 : Int)) % 3 = 0 := by omega
            subst hn1
            clear HF1 HN1 hQ hk
            go_wp2
            go_roundw
            case rel => exact ⟨t + 1, by omega, by omega, by omega, by go_num, by rw [hX2], rb⟩
            case measure => simp [intOf]; omega
      · have HO1 := Lib.hid (fun W k => HO.out t t2 W k)
        obtain ⟨X1, hX1⟩ : ∃ X, flipD s (dB a len1 t) = X := ⟨_, rfl⟩
        rw [hX1] at HO1 ⊢
        have hlt' : (t : Int) < (a : Int) + (R : Int) → ¬ (t : Int) < (N : Int) := fun h => by omega
        obtain ⟨-, -, ⟨c0, c1, c2, -⟩, -⟩ := HP.out _ rb
        obtain ⟨f1, f2, f3, f4⟩ := HE.out
        clear hX1
        by_cases hc : (t : Int) < (a : Int) + (R : Int)
        all_goals
          first | have hc2 := hlt' hc | skip
          clear hlt hlt'
          go_wp2_with fail
          refine (HO0.out _ rb).mono ?_
          rintro e w5 ⟨rfl, hB⟩
          have d1 := below_then rb (Nat.le_refl _) hB
          clear hB rb c0 c1 c2
          obtain ⟨-, -, ⟨c0, c1, c2, -⟩, -⟩ := HP.out _ d1
          go_wp2_with fail
          refine (HO1.out _ d1).mono ?_
          rintro e w6 ⟨rfl, hB⟩
          have d2 := below_then d1 (Nat.le_refl _) hB
          clear hB d1 c0 c1 c2
          go_wp2
          go_ret
          exact ⟨rfl, (HP.out _ d2).2.2.2⟩
  · have hA : ppAns z n S T X = noS := by
      cases h1 : payB z with
      | false => exact pp_pay h1
      | true =>
        by_cases h2 : 1 ≤ n ∧ n ≤ 40
        · cases h3 : regB S T X with
          | false => exact pp_reg h3
          | true => exact absurd ⟨h1, h2, h3⟩ hall
        · exact pp_rows h2
    rw [hA] at HI HS
    clear hA hall
    go_wp2_with fail
    refine (HI.out _ bc).mono ?_
    rintro e w2 ⟨rfl, hB2⟩
    have b2 := below_then bc (Nat.le_refl _) hB2
    clear bc hB2 c0 c1 c2
    obtain ⟨-, -, ⟨c0, c1, c2, -⟩, -⟩ := HP.out _ b2
    go_wp2_with fail
    refine (HS.out _).mono ?_
    rintro e w3 ⟨rfl, hB3⟩
    have b3 := below_then b2 (Nat.le_refl _) hB3
    clear b2 hB3 HI HS c0 c1 c2
    go_wp2
    go_ret
    exact ⟨rfl, (HP.out _ b3).2.2.2⟩
end Go.Proofs.YtabokoodpobnnaaDoor
