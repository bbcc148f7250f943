/- blockOf of the program (by mkfrm17.py). -/
import Derived.Test.YtabokoodpobnnaaDoorFrm16
namespace Go.Proofs.YtabokoodpobnnaaDoor
open Go.RowKit Go.Shelf
set_option linter.unusedVariables false
set_option maxRecDepth 100000
theorem rowP_next (q : Nat → Nat) (V j k : Nat) (h : (j = 0 ∧ k = 2) ∨ (j = 1 ∧ k = 4) ∨ (j = 2 ∧ k = 5) ∨ (j = 3 ∧ k = 6)) (hV : V = q j) (i : Nat) (hi : i < 7) : (if i = k then V else rowP q j i) = rowP q (j + 1) i := by
  subst hV
  have h7 : i = 0 ∨ i = 1 ∨ i = 2 ∨ i = 3 ∨ i = 4 ∨ i = 5 ∨ i = 6 := by omega
  rcases h with ⟨rfl, rfl⟩ | ⟨rfl, rfl⟩ | ⟨rfl, rfl⟩ | ⟨rfl, rfl⟩ <;> rcases h7 with rfl | rfl | rfl | rfl | rfl | rfl | rfl <;> simp [rowP]
theorem nought_row : ∀ i, i < 7 → zb ⟨#[48, 48, 48, 48, 48, 48, 48]⟩ i = rowP (fun _ => 48) 0 i := by decide +kernel
set_option maxHeartbeats 1600000 in
theorem blockOf_any (z : ByteArray) (w : World) (h4 : z.size = 4) (ho : okB z z.size = true) (hp : PlacesAt w) (h0 : 0 < w.heap.size) :
    Calls Tryd.prog 57 #[.string z] w (BlkOf w z) := by
  have hbit : ∀ i, i < 4 → zb z i = 48 ∨ zb z i = 49 := fun i hi => okB_zb z ho i (by omega)
  obtain ⟨hS8, ha1, ha2, ha4⟩ := syn_and (zb z) hbit
  obtain ⟨W1, c, hcv, hfr, hB1, hR⟩ := conv_row w ⟨#[48, 48, 48, 48, 48, 48, 48]⟩ rfl
  have hH : RowH W1 w.heap.size (rowP (zb z) 0) := ⟨hR.congr (fun i hi => by rw [nought_row i hi]; simp [rowP]), hfr⟩
  obtain ⟨p0, p1, p2, p3⟩ := PlacesAt.below hp h0 hB1
  obtain ⟨g, hg⟩ : ∃ g, w.heap.size = g := ⟨_, rfl⟩
  rw [hg] at hcv hH
  have HH := Lib.hid hH
  have HB1 := Lib.hid hB1
  have HG := Lib.hid hg
  have HR7 := Lib.hid rep0_any
  have z0 : z[0].toNat = zb z 0 := zb_at z 0 (by omega)
  have z1 : z[1].toNat = zb z 1 := zb_at z 1 (by omega)
  have z2 : z[2].toNat = zb z 2 := zb_at z 2 (by omega)
  have z3 : z[3].toNat = zb z 3 := zb_at z 3 (by omega)
  have HZ0 := Lib.hid z0
  have HZ1 := Lib.hid z1
  have HZ2 := Lib.hid z2
  have HZ3 := Lib.hid z3
  have HA1 := Lib.hid ha1
  have HA2 := Lib.hid ha2
  have HA4 := Lib.hid ha4
  clear hR hfr hB1 hH hg ho hbit ha1 ha2 ha4 hp h0 z0 z1 z2 z3
  go_enter Tryd.func57, Tryd.ntmps57
  go_wp2_with fail
  refine (HR7.out _).mono ?_
  rintro e w1 ⟨rfl, rfl⟩
  go_wp2
  go_loopw [11] (fun i wr => ∃ j : Nat, j ≤ 4 ∧ i = .int .i64 j ∧ RowH wr g (rowP (zb z) j) ∧ Below w.heap.size w wr) (fun i _ => 4 - (intOf i).toNat)
  case atStart => exact ⟨0, by omega, rfl, HH.out, HB1.out⟩
  case round =>
    clear hcv p0 p1 p2 p3
    obtain ⟨j, hj, rfl, rH, rb⟩ := hrel
    by_cases hj4 : j < 4
    · rcases (by omega : j = 0 ∨ j = 1 ∨ j = 2 ∨ j = 3) with rfl | rfl | rfl | rfl
      · have cX := rH.1.2.1 2 (by omega)
        have fX := rH.2 2 (by omega)
        have hix : ∀ W : World, (Instr.index 56 (.agg #[.int .i64 3, .int .i64 5, .int .i64 6, .int .i64 7]) (.int .i64 0)).run Tryd.prog W = .ok (.int .i64 3) W := fun W => places_at W 0 3 (by omega)
        have H2 := Lib.hid (rH.set (k := 2) (by omega) (rowP_next (zb z) _ 0 2 (by omega) HZ0.out))
        have b2 := bytes_below rb (Nat.le_of_eq HG.out) 2 (.int .u8 (z[0].toNat : Nat))
        obtain ⟨X, hX⟩ : ∃ X, rowP (zb z) 0 2 = X := ⟨_, rfl⟩
        rw [hX] at cX
        clear hX hj hj4 rH rb
        go_wp2
        go_roundw
        case rel => exact ⟨1, by omega, by go_num, H2.out, b2⟩
        case measure => simp [intOf]
      · have cX := rH.1.2.1 4 (by omega)
        have fX := rH.2 4 (by omega)
        have hix : ∀ W : World, (Instr.index 56 (.agg #[.int .i64 3, .int .i64 5, .int .i64 6, .int .i64 7]) (.int .i64 1)).run Tryd.prog W = .ok (.int .i64 5) W := fun W => places_at W 1 5 (by omega)
        have H2 := Lib.hid (rH.set (k := 4) (by omega) (rowP_next (zb z) _ 1 4 (by omega) HZ1.out))
        have b2 := bytes_below rb (Nat.le_of_eq HG.out) 4 (.int .u8 (z[1].toNat : Nat))
        obtain ⟨X, hX⟩ : ∃ X, rowP (zb z) 1 4 = X := ⟨_, rfl⟩
        rw [hX] at cX
        clear hX hj hj4 rH rb
        go_wp2
        go_roundw
        case rel => exact ⟨2, by omega, by go_num, H2.out, b2⟩
        case measure => simp [intOf]
      · have cX := rH.1.2.1 5 (by omega)
        have fX := rH.2 5 (by omega)
        have hix : ∀ W : World, (Instr.index 56 (.agg #[.int .i64 3, .int .i64 5, .int .i64 6, .int .i64 7]) (.int .i64 2)).run Tryd.prog W = .ok (.int .i64 6) W := fun W => places_at W 2 6 (by omega)
        have H2 := Lib.hid (rH.set (k := 5) (by omega) (rowP_next (zb z) _ 2 5 (by omega) HZ2.out))
        have b2 := bytes_below rb (Nat.le_of_eq HG.out) 5 (.int .u8 (z[2].toNat : Nat))
        obtain ⟨X, hX⟩ : ∃ X, rowP (zb z) 2 5 = X := ⟨_, rfl⟩
        rw [hX] at cX
        clear hX hj hj4 rH rb
        go_wp2
        go_roundw
        case rel => exact ⟨3, by omega, by go_num, H2.out, b2⟩
        case measure => simp [intOf]
      · have cX := rH.1.2.1 6 (by omega)
        have fX := rH.2 6 (by omega)
        have hix : ∀ W : World, (Instr.index 56 (.agg #[.int .i64 3, .int .i64 5, .int .i64 6, .int .i64 7]) (.int .i64 3)).run Tryd.prog W = .ok (.int .i64 7) W := fun W => places_at W 3 7 (by omega)
        have H2 := Lib.hid (rH.set (k := 6) (by omega) (rowP_next (zb z) _ 3 6 (by omega) HZ3.out))
        have b2 := bytes_below rb (Nat.le_of_eq HG.out) 6 (.int .u8 (z[3].toNat : Nat))
        obtain ⟨X, hX⟩ : ∃ X, rowP (zb z) 3 6 = X := ⟨_, rfl⟩
        rw [hX] at cX
        clear hX hj hj4 rH rb
        go_wp2
        go_roundw
        case rel => exact ⟨4, by omega, by go_num, H2.out, b2⟩
        case measure => simp [intOf]
    · obtain rfl : j = 4 := by omega
      have hS := syn_any g 0 c (rowP (zb z) 4) wr (fun i hi => by rw [Nat.zero_add]; exact rH.1.2.1 i hi)
      have H0 : Hid (RowH wr g (rowQ (zb z) 0)) := Lib.hid ⟨rH.1.congr (fun i hi => by simp [rowQ]), rH.2⟩
      have RB := Lib.hid rb
      obtain ⟨S, hSS⟩ : ∃ S, synF (rowP (zb z) 4) 7 = S := ⟨_, rfl⟩
      rw [hSS] at hS HA1 HA2 HA4
      have HS := Lib.hid hS
      clear hj hj4 rH rb hS hSS hS8
      go_wp2_with fail
      refine HS.out.mono ?_
      rintro e w1 ⟨rfl, rfl⟩
      go_wp2
      go_loopw [7] (fun i wr => ∃ m p : Nat, ((m = 0 ∧ p = 1) ∨ (m = 1 ∧ p = 2) ∨ (m = 2 ∧ p = 4) ∨ (m = 3 ∧ p = 8)) ∧ i = .int .i64 p ∧ RowH wr g (rowQ (zb z) m) ∧ Below w.heap.size w wr) (fun i _ => 8 - (intOf i).toNat)
      case atStart => exact ⟨0, 1, .inl ⟨rfl, rfl⟩, rfl, H0.out, RB.out⟩
      case round =>
        clear HS H0 RB
        obtain ⟨m, p, hm, rfl, rH, rb⟩ := hrel
        rcases hm with ⟨rfl, rfl⟩ | ⟨rfl, rfl⟩ | ⟨rfl, rfl⟩ | ⟨rfl, rfl⟩
        · have hA := HA1.out
          by_cases hck : ck3 (zb z 0) (zb z 1) (zb z 3) = 49
          · rw [if_pos hck] at hA
            have cX := rH.1.2.1 0 (by omega)
            have fX := rH.2 0 (by omega)
            have H2 := Lib.hid (rH.set (k := 0) (V := 49) (y' := rowQ (zb z) 1) (by omega) (fun i hi => by
              have h7 : i = 0 ∨ i = 1 ∨ i = 2 ∨ i = 3 ∨ i = 4 ∨ i = 5 ∨ i = 6 := by omega
              rcases h7 with rfl | rfl | rfl | rfl | rfl | rfl | rfl <;> simp [rowQ, rowP, hck]))
            have b2 := bytes_below rb (Nat.le_of_eq HG.out) 0 (.int .u8 (49 : Nat))
            obtain ⟨X, hX⟩ : ∃ X, rowQ (zb z) 0 0 = X := ⟨_, rfl⟩
            rw [hX] at cX
            clear hX rH rb hck
            go_wp2
            go_roundw
            case rel => exact ⟨1, 2, .inr (.inl ⟨rfl, rfl⟩), by go_num, H2.out, b2⟩
            case measure => simp [intOf]
          · rw [if_neg hck] at hA
            have hck8 := (ck3_bit (zb z 0) (zb z 1) (zb z 3)).resolve_right hck
            have H2 : Hid (RowH wr g (rowQ (zb z) 1)) := Lib.hid ⟨rH.1.congr (fun i hi => by
              have h7 : i = 0 ∨ i = 1 ∨ i = 2 ∨ i = 3 ∨ i = 4 ∨ i = 5 ∨ i = 6 := by omega
              rcases h7 with rfl | rfl | rfl | rfl | rfl | rfl | rfl <;> simp [rowQ, rowP, hck8]), rH.2⟩
            have RB := Lib.hid rb
            clear rH rb hck hck8
            go_wp2
            go_roundw
            case rel => exact ⟨1, 2, .inr (.inl ⟨rfl, rfl⟩), by go_num, H2.out, RB.out⟩
            case measure => simp [intOf]
        · have hA := HA2.out
          by_cases hck : ck3 (zb z 0) (zb z 2) (zb z 3) = 49
          · rw [if_pos hck] at hA
            have cX := rH.1.2.1 1 (by omega)
            have fX := rH.2 1 (by omega)
            have H2 := Lib.hid (rH.set (k := 1) (V := 49) (y' := rowQ (zb z) 2) (by omega) (fun i hi => by
              have h7 : i = 0 ∨ i = 1 ∨ i = 2 ∨ i = 3 ∨ i = 4 ∨ i = 5 ∨ i = 6 := by omega
              rcases h7 with rfl | rfl | rfl | rfl | rfl | rfl | rfl <;> simp [rowQ, rowP, hck]))
            have b2 := bytes_below rb (Nat.le_of_eq HG.out) 1 (.int .u8 (49 : Nat))
            obtain ⟨X, hX⟩ : ∃ X, rowQ (zb z) 1 1 = X := ⟨_, rfl⟩
            rw [hX] at cX
            clear hX rH rb hck
            go_wp2
            go_roundw
            case rel => exact ⟨2, 4, .inr (.inr (.inl ⟨rfl, rfl⟩)), by go_num, H2.out, b2⟩
            case measure => simp [intOf]
          · rw [if_neg hck] at hA
            have hck8 := (ck3_bit (zb z 0) (zb z 2) (zb z 3)).resolve_right hck
            have H2 : Hid (RowH wr g (rowQ (zb z) 2)) := Lib.hid ⟨rH.1.congr (fun i hi => by
              have h7 : i = 0 ∨ i = 1 ∨ i = 2 ∨ i = 3 ∨ i = 4 ∨ i = 5 ∨ i = 6 := by omega
              rcases h7 with rfl | rfl | rfl | rfl | rfl | rfl | rfl <;> simp [rowQ, rowP, hck8]), rH.2⟩
            have RB := Lib.hid rb
            clear rH rb hck hck8
            go_wp2
            go_roundw
            case rel => exact ⟨2, 4, .inr (.inr (.inl ⟨rfl, rfl⟩)), by go_num, H2.out, RB.out⟩
            case measure => simp [intOf]
        · have hA := HA4.out
          by_cases hck : ck3 (zb z 1) (zb z 2) (zb z 3) = 49
          · rw [if_pos hck] at hA
            have cX := rH.1.2.1 3 (by omega)
            have fX := rH.2 3 (by omega)
            have H2 := Lib.hid (rH.set (k := 3) (V := 49) (y' := rowQ (zb z) 3) (by omega) (fun i hi => by
              have h7 : i = 0 ∨ i = 1 ∨ i = 2 ∨ i = 3 ∨ i = 4 ∨ i = 5 ∨ i = 6 := by omega
              rcases h7 with rfl | rfl | rfl | rfl | rfl | rfl | rfl <;> simp [rowQ, rowP, hck]))
            have b2 := bytes_below rb (Nat.le_of_eq HG.out) 3 (.int .u8 (49 : Nat))
            obtain ⟨X, hX⟩ : ∃ X, rowQ (zb z) 2 3 = X := ⟨_, rfl⟩
            rw [hX] at cX
            clear hX rH rb hck
            go_wp2
            go_roundw
            case rel => exact ⟨3, 8, .inr (.inr (.inr ⟨rfl, rfl⟩)), by go_num, H2.out, b2⟩
            case measure => simp [intOf]
          · rw [if_neg hck] at hA
            have hck8 := (ck3_bit (zb z 1) (zb z 2) (zb z 3)).resolve_right hck
            have H2 : Hid (RowH wr g (rowQ (zb z) 3)) := Lib.hid ⟨rH.1.congr (fun i hi => by
              have h7 : i = 0 ∨ i = 1 ∨ i = 2 ∨ i = 3 ∨ i = 4 ∨ i = 5 ∨ i = 6 := by omega
              rcases h7 with rfl | rfl | rfl | rfl | rfl | rfl | rfl <;> simp [rowQ, rowP, hck8]), rH.2⟩
            have RB := Lib.hid rb
            clear rH rb hck hck8
            go_wp2
            go_roundw
            case rel => exact ⟨3, 8, .inr (.inr (.inr ⟨rfl, rfl⟩)), by go_num, H2.out, RB.out⟩
            case measure => simp [intOf]
        · have R3 := Lib.hid (rH.1.congr (rowQ_full (zb z)))
          have RB := Lib.hid rb
          clear rH rb
          go_wp2
          go_ret
          exact ⟨g, c, rfl, Nat.le_of_eq HG.out, R3.out, RB.out⟩
end Go.Proofs.YtabokoodpobnnaaDoor
