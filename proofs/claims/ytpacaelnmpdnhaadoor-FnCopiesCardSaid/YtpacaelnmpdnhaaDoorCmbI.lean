/- Copies combined, by the program. -/
import Derived.Test.YtpacaelnmpdnhaaDoorCmbS
import Derived.Test.YtpacaelnmpdnhaaDoorCop1
import Derived.Test.YtpacaelnmpdnhaaDoorTailS
namespace Go.Proofs.YtpacaelnmpdnhaaDoor
open Go.RowKit
set_option linter.unusedVariables false
set_option maxRecDepth 100000
open Classical in
noncomputable def cpsB (f : Nat → ByteArray) (n : Nat) : Bool := decide (CpsP f n)
theorem cps_yes {f : Nat → ByteArray} {n : Nat} (h : CpsP f n) : cpsB f n = true := by unfold cpsB; exact @decide_eq_true _ (Classical.propDecidable _) h
theorem cps_no {f : Nat → ByteArray} {n : Nat} (h : ¬ CpsP f n) : cpsB f n = false := by unfold cpsB; exact @decide_eq_false _ (Classical.propDecidable _) h
set_option maxHeartbeats 800000 in
theorem iCps_any (v : Value) (n : Nat) (f : Nat → ByteArray) (w : World) (hv : Strs w v n f) (hn : n ≤ 1048576) (hf : ∀ i, i < n → (f i).size ≤ 1048576) (hd : DoorAt w) :
    Calls Tryd.prog 33 #[v] w fun e w' => e = .returned (.bool (cpsB f n)) ∧ Below w.heap.size w w' := by
  have HY := Lib.hid (fun (h : CpsP f n) => cps_yes h)
  have HN := Lib.hid (fun (h : ¬ CpsP f n) => cps_no h)
  obtain ⟨A, hA⟩ : ∃ A, cpsB f n = A := ⟨_, rfl⟩
  rw [hA] at HY HN ⊢
  clear hA
  by_cases h0 : n = 0
  · subst h0
    have HX := Lib.hid (HN.out (fun h => by have := h.1.1; omega))
    obtain ⟨a, cap, rfl, _⟩ := hv
    go_enter Tryd.func33, Tryd.ntmps33
    go_wp2
    go_ret
    exact ⟨ret_bool HX.out.symm, Below.refl _ _⟩
  have z0 : ((n : Int) == 0) = false := by rw [beq_eq_false_iff_ne]; omega
  by_cases h16 : n ≤ 16
  · have z1 : ¬ (16 : Int) < (n : Int) := by omega
    obtain ⟨a, cap, rfl, hc⟩ := hv
    obtain ⟨x0, hx0, hl0, hc0⟩ := hc 0 (by omega)
    subst hx0
    have HC : Hid (∀ k, k < n → w.cell? (x0.add k) = some (.string (f k))) := Lib.hid (fun k hk => by
      obtain ⟨x, hx, _, h2⟩ := hc k hk
      injection hx with hx; rw [hx]; exact h2)
    have HCp := Lib.hid (fun k (hk : k < n) w hd => iCopy_any (f k) w (hf k hk) hd)
    have HD := Lib.hid (fun w1 (b1 : Below w.heap.size w w1) => hd.below b1 hd.lt)
    have HF := Lib.hid hf
    have e0 : x0.add 0 = x0 := by unfold Addr.add; split <;> simp_all
    obtain ⟨z, hz⟩ : ∃ z, f 0 = z := ⟨_, rfl⟩
    have HZ := Lib.hid hz
    clear hc hc0 hf hz hd
    go_enter Tryd.func33, Tryd.ntmps33
    go_wp2
    go_loopw [15] (fun t wr => ∃ k : Nat, k ≤ n ∧ t = .int .i64 k ∧ Hid (∀ t, t < k → cpyB (f t) = true ∧ (f t).size = z.size) ∧ Below w.heap.size w wr) (fun t _ => n - (intOf t).toNat)
    case atStart => exact ⟨0, Nat.zero_le _, rfl, Lib.hid (fun t ht => absurd ht (Nat.not_lt_zero t)), Below.refl _ _⟩
    case round =>
      obtain ⟨k, hk, rfl, HV1, rb⟩ := hrel
      by_cases hlt : k < n
      · have d1 := (rb.cell (p := x0.add k) (by rw [add_block]; exact hl0)).trans (HC.out k hlt)
        have i0 : (0 : Int) ≤ (k : Int) := by omega
        have i1 : (k : Int) < (n : Int) := by omega
        have n0 : (0 : Int) < (n : Int) := by omega
        have hcp := HCp.out k hlt wr (HD.out _ rb)
        have D0 : Hid (∀ w2, Below wr.heap.size wr w2 → w2.cell? x0 = some (.string z)) := Lib.hid (fun w2 hb => by
          have := ((below_then rb (Nat.le_refl _) hb).cell (p := x0.add 0) (by rw [add_block]; exact hl0)).trans (HC.out 0 (by omega))
          rw [e0, HZ.out] at this; exact this)
        cases hq : cpyB (f k) with
        | false =>
          rw [hq] at hcp
          have HX := Lib.hid (HN.out (fun h => by have := (h.2 k hlt).1; rw [hq] at this; cases this))
          obtain ⟨y, hy⟩ : ∃ y, f k = y := ⟨_, rfl⟩
          rw [hy] at d1 hcp
          have HQ := Lib.hid hcp
          clear hcp hq hy
          go_wp2_with fail
          refine HQ.out.mono ?_
          rintro e w2 ⟨rfl, hb⟩
          have b2 := below_then rb (Nat.le_refl _) hb
          go_wp2
          go_ret
          exact ⟨ret_bool HX.out.symm, b2⟩
        | true =>
          rw [hq] at hcp
          by_cases hsz : (f k).size = z.size
          · have HV3 : Hid (∀ t, t < k + 1 → cpyB (f t) = true ∧ (f t).size = z.size) := Lib.hid (fun t ht => by
              by_cases e : t = k
              · subst e; exact ⟨hq, hsz⟩
              · exact HV1.out t (by omega))
            obtain ⟨y, hy⟩ : ∃ y, f k = y := ⟨_, rfl⟩
            rw [hy] at d1 hcp hsz
            have HQ := Lib.hid hcp
            have hne : ((y.size : Int) != (z.size : Int)) = false := by rw [bne_eq_false_iff_eq]; omega
            clear hcp hq hy HV1
            go_wp2_with fail
            refine HQ.out.mono ?_
            rintro e w2 ⟨rfl, hb⟩
            have b2 := below_then rb (Nat.le_refl _) hb
            have d0 := D0.out w2 hb
            clear rb d1 hb
            go_wp2
            go_roundw
            case rel => exact ⟨k + 1, by omega, by go_num, HV3, b2⟩
            case measure => simp [intOf]; omega
          · have HX := Lib.hid (HN.out (fun h => hsz (by have := (h.2 k hlt).2; rw [HZ.out] at this; exact this)))
            obtain ⟨y, hy⟩ : ∃ y, f k = y := ⟨_, rfl⟩
            rw [hy] at d1 hcp hsz
            have HQ := Lib.hid hcp
            have hne : ((y.size : Int) != (z.size : Int)) = true := by rw [bne_iff_ne]; omega
            clear hcp hq hy hsz
            go_wp2_with fail
            refine HQ.out.mono ?_
            rintro e w2 ⟨rfl, hb⟩
            have b2 := below_then rb (Nat.le_refl _) hb
            have d0 := D0.out w2 hb
            clear rb d1 hb
            go_wp2
            go_ret
            exact ⟨ret_bool HX.out.symm, b2⟩
      · obtain rfl : k = n := by omega
        have HX := Lib.hid (HY.out ⟨⟨by omega, h16⟩, fun t ht => by rw [HZ.out]; exact HV1.out t ht⟩)
        go_wp2
        go_ret
        exact ⟨ret_bool HX.out.symm, rb⟩
  · have HX := Lib.hid (HN.out (fun h => h16 h.1.2))
    have z1 : (16 : Int) < (n : Int) := by omega
    obtain ⟨a, cap, rfl, _⟩ := hv
    clear h16 hf
    go_enter Tryd.func33, Tryd.ntmps33
    go_wp2
    go_ret
    exact ⟨ret_bool HX.out.symm, Below.refl _ _⟩
theorem agr1_any (B : Nat) (w : World) : Calls Tryd.prog 34 #[.int .u8 63, .int .u8 (B : Nat)] w fun e w' => e = .returned (.tuple #[.int .u8 (B : Nat), .bool true]) ∧ w = w' := by
  go_enter Tryd.func34, Tryd.ntmps34
  go_wp2
  go_ret2
  exact ⟨rfl, rfl⟩
theorem agr2_any (V B : Nat) (w : World) (hV : V ≠ 63) (h : B = V ∨ B = 63) : Calls Tryd.prog 34 #[.int .u8 (V : Nat), .int .u8 (B : Nat)] w fun e w' => e = .returned (.tuple #[.int .u8 (V : Nat), .bool true]) ∧ w = w' := by
  have v1 : ((V : Int) == 63) = false := by rw [beq_eq_false_iff_ne]; omega
  by_cases e : B = V
  · subst e
    have v2 : ((B : Int) == (B : Int)) = true := by rw [beq_iff_eq]
    clear h
    go_enter Tryd.func34, Tryd.ntmps34
    go_wp2
    go_ret2
    exact ⟨rfl, rfl⟩
  · obtain rfl : B = 63 := by omega
    have v2 : (((63 : Nat) : Int) == (V : Int)) = false := by rw [beq_eq_false_iff_ne]; omega
    have v3 : ((63 : Int) == (V : Int)) = false := by rw [beq_eq_false_iff_ne]; omega
    clear h
    go_enter Tryd.func34, Tryd.ntmps34
    go_wp2
    go_ret2
    exact ⟨rfl, rfl⟩
theorem agr3_any (V B : Nat) (w : World) (hV : V ≠ 63) (h1 : B ≠ V) (h2 : B ≠ 63) : Calls Tryd.prog 34 #[.int .u8 (V : Nat), .int .u8 (B : Nat)] w fun e w' => e = .returned (.tuple #[.int .u8 (V : Nat), .bool false]) ∧ w = w' := by
  have v1 : ((V : Int) == 63) = false := by rw [beq_eq_false_iff_ne]; omega
  have v2 : ((B : Int) == (V : Int)) = false := by rw [beq_eq_false_iff_ne]; omega
  have v3 : ((B : Int) == 63) = false := by rw [beq_eq_false_iff_ne]; omega
  go_enter Tryd.func34, Tryd.ntmps34
  go_wp2
  go_ret2
  exact ⟨rfl, rfl⟩
set_option maxHeartbeats 1600000 in
theorem iCmb_any (v : Value) (B0 n : Nat) (f : Nat → ByteArray) (w : World) (hS : SF w B0 v n f) (hn : n ≤ 1048576) (hf : ∀ i, i < n → (f i).size ≤ 1048576) (hd : DoorAt w) :
    Calls Tryd.prog 15 #[v] w fun e w' => e = .returned (.tuple #[.string (cmbAns f n).1, .bool (cmbAns f n).2]) ∧ Below w.heap.size w w' := by
  have hv := hS.strs
  have hTL := fun (h : 1 ≤ n) => tailT_strs hS 1 h
  have HV0 := iCps_any v n f w hv hn hf hd
  by_cases hp : CpsP f n
  · rw [cps_yes hp] at HV0
    have HV0 := Lib.hid HV0
    have HY := Lib.hid (fun (h : CmbP f n) => cmb_yes h)
    have HN := Lib.hid (fun (h : ¬ CmbP f n) => cmb_no h)
    obtain ⟨A, hA⟩ : ∃ A, cmbAns f n = A := ⟨_, rfl⟩
    rw [hA] at HY HN ⊢
    clear hA
    obtain ⟨⟨h1, h16⟩, hall⟩ := id hp
    obtain ⟨a, cap, rfl, hc⟩ := id hv
    obtain ⟨x0, hx0, hl0, hc0⟩ := hc 0 (by omega)
    have HR : Hid (∀ k, k < n → (f k).size = (f 0).size) := Lib.hid (fun k hk => (hall k hk).2)
    obtain ⟨z, hz⟩ : ∃ z, f 0 = z := ⟨_, rfl⟩
    have hL6 := hf 0 (by omega)
    rw [hz] at hL6 hc0
    have HZ := Lib.hid hz
    have HS2 := Lib.hid (fun i k => (cmb_step f i (k + 1)))
    have HST : Hid (∀ (W : World) (g c : Nat), RowB W g z.size (fun l => cmbV f l (n - 1)) → (convert 36 9 (.slice (some ⟨g, 0, none⟩) z.size c)).run Tryd.prog W = .ok (.string (cmbS f n)) W) := Lib.hid (fun W g c h => by
      have := str_cells (W := W) (g := g) (n := z.size) (cap := c) (fun l hl => (h.2 l hl).1)
      rw [this]; unfold cmbS; rw [hz])
    obtain ⟨Y, hY⟩ : ∃ Y, cmbS f n = Y := ⟨_, rfl⟩
    rw [hY] at HY HST
    subst hx0
    have HC : Hid (∀ k, k < n → w.cell? (x0.add k) = some (.string (f k))) := Lib.hid (fun k hk => by
      obtain ⟨x, hx, _, h2⟩ := hc k hk
      injection hx with hx; rw [hx]; exact h2)
    have e0 : x0.add 0 = x0 := by unfold Addr.add; split <;> simp_all
    obtain ⟨a2, cap2, hsl0, hct⟩ := hTL h1
    have hsl : ∀ w1, (Instr.sliceAt 24 (.slice (some x0) n cap) (some (.int .i64 1)) none none).run Tryd.prog w1 = .ok (.slice a2 (n - 1) cap2) w1 := hsl0
    have HCT : Hid (∀ k, k + 1 < n → ∃ x : Addr, a2 = some x ∧ x.block < w.heap.size ∧ w.cell? (x.add k) = some (.string (f (k + 1)))) := Lib.hid (fun k hk => by
      obtain ⟨x, h1, h2, h3⟩ := hct k (by omega)
      exact ⟨x, h1, h2, by rw [h3, Nat.add_comm]⟩)
    rw [e0] at hc0
    have HP := Lib.hid hp
    have n0 : (0 : Int) < (n : Int) := by omega
    have n1 : (1 : Int) ≤ (n : Int) := by omega
    obtain ⟨M, hM⟩ : ∃ M, n = M + 1 := ⟨n - 1, by omega⟩
    have nM : n - 1 = M := by omega
    have M16 : M ≤ 16 := by omega
    rw [nM] at hsl
    have HM := Lib.hid hM
    clear hM nM hc hsl0 hct hTL hS hv hall hp hf hn hY hz hd
    go_enter Tryd.func15, Tryd.ntmps15
    go_wp2_with fail
    refine HV0.out.mono ?_
    rintro e w1 ⟨rfl, b1⟩
    have d0 := (b1.cell hl0).trans hc0
    obtain ⟨W1, c, hcv, hH, hB⟩ : ∃ W1 c, (convert 9 36 (.string z)).run Tryd.prog w1 = .ok (.slice (some ⟨w1.heap.size, 0, none⟩) z.size c) W1 ∧ RowB W1 w1.heap.size z.size (zb z) ∧ Below w1.heap.size w1 W1 :=
      ⟨_, _, Lib.run_convert_string_bytes w1 9 36 5 z (u := .string) (by kernel_rfl) (by kernel_rfl) (by kernel_rfl), ⟨by rw [Lib.bytesWorld_size]; omega, bytes_row w1 5 z⟩, below_bytesW w1 _ z⟩
    have hHv : RowB W1 w1.heap.size z.size (fun l => cmbV f l 0) := hH.congr (fun i _ => by show zb z i = zb (f 0) i; rw [HZ.out])
    have b2 := below_then b1 (Nat.le_refl _) hB
    have hws := b1.size
    obtain ⟨G, hG⟩ : ∃ G, w1.heap.size = G := ⟨_, rfl⟩
    rw [hG] at hcv hHv hws
    clear hH hB hc0 hG
    go_wp2
    go_loopw [20] (fun t wr => ∃ k : Nat, k ≤ M ∧ t = .int .i64 k ∧ Hid (∀ t, t < k → ∀ i, i < z.size → okC (cmbV f i t) (zb (f (t + 1)) i)) ∧ RowB wr G z.size (fun l => cmbV f l k) ∧ Below w.heap.size w wr) (fun t _ => M - (intOf t).toNat)
    case atStart => exact ⟨0, Nat.zero_le _, rfl, Lib.hid (fun t ht => absurd ht (Nat.not_lt_zero t)), hHv, b2⟩
    case round =>
      clear hcv hHv b2 b1 d0 hsl
      obtain ⟨k, hk, rfl, HV2, rR, rb⟩ := hrel
      by_cases hlt : k < M
      · obtain ⟨x, hx2, hxl, hcx⟩ := HCT.out k (by have := HM.out; omega)
        subst hx2
        have d1 := (rb.cell (p := x.add k) (by rw [add_block]; exact hxl)).trans hcx
        have i0 : (0 : Int) ≤ (k : Int) := by omega
        have i1 : (k : Int) < (M : Int) := by omega
        have hsz := HR.out (k + 1) (by have := HM.out; omega)
        rw [HZ.out] at hsz
        have HSk := Lib.hid (fun i => HS2.out i k)
        obtain ⟨y, hy⟩ : ∃ y, f (k + 1) = y := ⟨_, rfl⟩
        have HV4 : Hid ((∀ j, j < z.size → okC (cmbV f j k) (zb y j)) → ∀ t, t < k + 1 → ∀ i, i < z.size → okC (cmbV f i t) (zb (f (t + 1)) i)) := Lib.hid (fun h t ht i hi => by
          by_cases e : t = k
          · subst e; rw [hy]; exact h i hi
          · exact HV2.out t (by omega) i hi)
        have HNO : Hid (∀ j, j < z.size → ¬ okC (cmbV f j k) (zb y j) → A = noS) := Lib.hid (fun j hj h => HN.out (fun hp => h (by
          have := hp.2 k (by have := HM.out; omega) j (by rw [HZ.out]; exact hj)
          rw [hy] at this; exact this)))
        rw [hy] at d1 hsz
        simp only [hy, Nat.add_sub_cancel] at HSk
        have R2 := rR.congr (f' := fun l => if l < 0 then cmbV f l (k + 1) else cmbV f l k) (fun l _ => by simp)
        clear hy HV2 rR
        go_wp2
        clear d1
        go_loopw [26] (fun t wr => ∃ i : Nat, i ≤ z.size ∧ t = .int .i64 i ∧ Hid (∀ j, j < i → okC (cmbV f j k) (zb y j)) ∧ RowB wr G z.size (fun l => if l < i then cmbV f l (k + 1) else cmbV f l k) ∧ Below w.heap.size w wr) (fun t _ => z.size - (intOf t).toNat)
        case atStart => exact ⟨0, Nat.zero_le _, rfl, Lib.hid (fun t ht => absurd ht (Nat.not_lt_zero t)), R2, rb⟩
        case round =>
          clear R2 rb
          obtain ⟨i, hi, rfl, HO, rR, rb⟩ := hrel
          by_cases hli : i < z.size
          · have j0 : (0 : Int) ≤ (i : Int) := by omega
            have j1 : (i : Int) < (y.size : Int) := by omega
            have j2 : (i : Int) < (z.size : Int) := by omega
            have hiy : i < y.size := by omega
            have hb := zb_at y i hiy
            obtain ⟨s1, s2⟩ := HSk.out i
            have no := HNO.out i hli
            have oks : ∀ (h : okC (cmbV f i k) (zb y i)), Hid (∀ j, j < i + 1 → okC (cmbV f j k) (zb y j)) := fun h => Lib.hid (fun j hj => by
              by_cases e : j = i
              · subst e; exact h
              · exact HO.out j (by omega))
            have d1 : True := trivial
            have cc := rR.2 i hli
            simp only [if_neg (Nat.lt_irrefl i)] at cc
            obtain ⟨c1, c2⟩ := cc
            obtain ⟨V, hV⟩ : ∃ V, cmbV f i k = V := ⟨_, rfl⟩
            obtain ⟨N, hN⟩ : ∃ N, cmbV f i (k + 1) = N := ⟨_, rfl⟩
            obtain ⟨B, hB⟩ : ∃ B, zb y i = B := ⟨_, rfl⟩
            have set1 : ∀ W, RowB W G z.size (fun l => if l < i then cmbV f l (k + 1) else cmbV f l k) → Hid (RowB (W.setCell ⟨G, i, none⟩ (.int .u8 (N : Nat))) G z.size (fun l => if l < i + 1 then cmbV f l (k + 1) else cmbV f l k)) := fun W h => Lib.hid (h.set hli (fun l hl => by
              by_cases e : l = i
              · subst e; rw [if_pos (by omega), if_pos rfl, hN]
              · rw [if_neg e]
                by_cases e' : l < i
                · rw [if_pos (by omega), if_pos e']
                · rw [if_neg (by omega), if_neg e']))
            rw [hV] at c1 no oks
            rw [hV, hN] at s2
            rw [hV, hN, hB] at s1
            rw [hB] at hb no oks
            by_cases hv : V = 63
            · obtain rfl := s1 hv
              have HO2 := oks (.inl hv)
              have HQ := Lib.hid (fun w => agr1_any N w)
              subst hv
              clear oks no s2 hV hN hB s1 HO
              go_wp2_with fail
              go_quiet ((go_at_call 34; exact quiet_same (HQ.out _)))
              have b2 := below_drewN rb nq
              have R2 := rR.below (below_drewN (Below.refl _ _) nq)
              obtain ⟨W, hW⟩ : ∃ W, wr.drewN nq = W := ⟨_, rfl⟩
              rw [hW] at b2 R2 ⊢
              clear hW rb rR d1 c1 c2
              obtain ⟨c1, c2⟩ := R2.2 i hli
              have nR := set1 W R2
              have nb := Lib.hid (b2.setCell (p := ⟨G, i, none⟩) hws (.int .u8 (N : Nat)))
              clear set1 R2 b2
              go_wp2
              go_roundw
              case rel => exact ⟨i + 1, by omega, by go_num, HO2, nR.out, nb.out⟩
              case measure => simp [intOf]; omega
            · have e1 := s2 hv
              subst e1
              by_cases hk63 : okC N B
              · have HO2 := oks hk63
                have HQ := Lib.hid (fun w => agr2_any N B w hv (by rcases hk63 with h | h | h <;> omega))
                clear oks no s2 hV hN hB s1 HO hk63
                go_wp2_with fail
                go_quiet ((go_at_call 34; exact quiet_same (HQ.out _)))
                have b2 := below_drewN rb nq
                have R2 := rR.below (below_drewN (Below.refl _ _) nq)
                obtain ⟨W, hW⟩ : ∃ W, wr.drewN nq = W := ⟨_, rfl⟩
                rw [hW] at b2 R2 ⊢
                clear hW rb rR d1 c1 c2
                obtain ⟨c1, c2⟩ := R2.2 i hli
                have nR := set1 W R2
                have nb := Lib.hid (b2.setCell (p := ⟨G, i, none⟩) hws (.int .u8 (N : Nat)))
                clear set1 R2 b2
                go_wp2
                go_roundw
                case rel => exact ⟨i + 1, by omega, by go_num, HO2, nR.out, nb.out⟩
                case measure => simp [intOf]; omega
              · have HX := Lib.hid (no hk63)
                have HQ := Lib.hid (fun w => agr3_any N B w hv (fun h => hk63 (.inr (.inl h))) (fun h => hk63 (.inr (.inr h))))
                clear oks no s2 hV hN hB s1 HO hk63 set1
                go_wp2_with fail
                go_quiet ((go_at_call 34; exact quiet_same (HQ.out _)))
                have b2 := below_drewN rb nq
                go_wp2
                go_ret2
                exact ⟨ret_C HX.out, b2⟩
          · obtain rfl : i = z.size := by omega
            have R2 : Hid (RowB wr G z.size (fun l => cmbV f l (k + 1))) := Lib.hid (rR.congr (fun l hl => by rw [if_pos hl]))
            have HO2 := Lib.hid (HV4.out HO.out)
            clear rR
            go_wp2
            go_roundw
            case rel => exact ⟨k + 1, by omega, by go_num, HO2, R2.out, rb⟩
            case measure => simp [intOf]; omega
      · obtain rfl : k = M := by omega
        have HX := Lib.hid (HY.out ⟨HP.out, fun t ht i hi => HV2.out t (by have := HM.out; omega) i (by rw [← HZ.out]; exact hi)⟩)
        have hst := HST.out wr G c (by rw [HM.out, Nat.add_sub_cancel]; exact rR)
        go_wp2
        go_ret2
        exact ⟨ret_C HX.out, rb⟩
  · rw [cps_no hp] at HV0
    have HX := Lib.hid (cmb_no (f := f) (n := n) (fun h => hp h.1))
    have HV0 := Lib.hid HV0
    obtain ⟨A, hA⟩ : ∃ A, cmbAns f n = A := ⟨_, rfl⟩
    rw [hA] at HX ⊢
    clear hA hp hf
    go_enter Tryd.func15, Tryd.ntmps15
    go_wp2_with fail
    refine HV0.out.mono ?_
    rintro e w1 ⟨rfl, b1⟩
    go_wp2
    go_ret2
    exact ⟨ret_C HX.out, b1⟩
end Go.Proofs.YtpacaelnmpdnhaaDoor
