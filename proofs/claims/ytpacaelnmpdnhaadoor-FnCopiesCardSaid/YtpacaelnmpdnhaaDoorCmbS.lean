/- Copies combined: the mathematics, and CombineCopies of the model. -/
import Derived.Test.YtpacaelnmpdnhaaDoorCop0
import Derived.Test.YtpacaelnmpdnhaaDoorHop11
import Derived.Test.YtpacaelnmpdnhaaDoorStrs
import Derived.BigQuiet
namespace Go.Proofs.YtpacaelnmpdnhaaDoor
open Go.RowKit
set_option linter.unusedVariables false
set_option maxRecDepth 100000
/-- The letter of a place that the first k + 1 copies tell together. -/
def cmbV (f : Nat → ByteArray) (i : Nat) : Nat → Nat
  | 0 => zb (f 0) i
  | k + 1 => if cmbV f i k = 63 then zb (f (k + 1)) i else cmbV f i k
/-- Two letters do not contradict each other. -/
def okC (v b : Nat) : Prop := v = 63 ∨ b = v ∨ b = 63
/-- Copies that can be combined. -/
def CpsP (f : Nat → ByteArray) (n : Nat) : Prop := (1 ≤ n ∧ n ≤ 16) ∧ ∀ k, k < n → cpyB (f k) = true ∧ (f k).size = (f 0).size
def CmbP (f : Nat → ByteArray) (n : Nat) : Prop := CpsP f n ∧ ∀ k, k + 1 < n → ∀ i, i < (f 0).size → okC (cmbV f i k) (zb (f (k + 1)) i)
def cmbS (f : Nat → ByteArray) (n : Nat) : ByteArray := strF (f 0).size (fun i => cmbV f i (n - 1))
open Classical in
noncomputable def cmbAns (f : Nat → ByteArray) (n : Nat) : ByteArray × Bool := if CmbP f n then (cmbS f n, true) else noS
theorem cmb_yes {f : Nat → ByteArray} {n : Nat} (h : CmbP f n) : cmbAns f n = (cmbS f n, true) := by unfold cmbAns; rw [if_pos h]
theorem cmb_no {f : Nat → ByteArray} {n : Nat} (h : ¬ CmbP f n) : cmbAns f n = noS := by unfold cmbAns; rw [if_neg h]
theorem cmbV_lt (f : Nat → ByteArray) (i : Nat) : ∀ k, cmbV f i k < 256
  | 0 => zb_lt _ _
  | k + 1 => by
    simp only [cmbV]
    split
    · exact zb_lt _ _
    · exact cmbV_lt f i k
/-- What a round of the model makes of a place. -/
theorem cmb_step (f : Nat → ByteArray) (i k : Nat) : (cmbV f i (k - 1) = 63 → cmbV f i k = zb (f k) i) ∧ (cmbV f i (k - 1) ≠ 63 → cmbV f i k = cmbV f i (k - 1)) := by
  cases k with
  | zero => exact ⟨fun _ => rfl, fun _ => rfl⟩
  | succ k =>
    simp only [Nat.add_sub_cancel, cmbV]
    exact ⟨fun h => by rw [if_pos h], fun h => by rw [if_neg h]⟩
theorem cmb_ok0 (f : Nat → ByteArray) (i : Nat) : okC (cmbV f i (0 - 1)) (zb (f 0) i) := .inr (.inl rfl)
theorem ret_C {A : ByteArray × Bool} {x : ByteArray} {c : Bool} (h : A = (x, c)) : Ending.returned (.tuple #[.string x, .bool c]) = .returned (.tuple #[.string A.1, .bool A.2]) := by rw [h]
set_option maxHeartbeats 1600000 in
theorem sCmb_any (v : Value) (n : Nat) (f : Nat → ByteArray) (w : World) (hv : Strs w v n f) (hn : n ≤ 1048576) (hf : ∀ i, i < n → (f i).size ≤ 1048576) :
    Calls Tryd.prog 13 #[v] w fun e w' => e = .returned (.tuple #[.string (cmbAns f n).1, .bool (cmbAns f n).2]) ∧ Below w.heap.size w w' := by
  have HY := Lib.hid (fun (h : CmbP f n) => cmb_yes h)
  have HN := Lib.hid (fun (h : ¬ CmbP f n) => cmb_no h)
  obtain ⟨A, hA⟩ : ∃ A, cmbAns f n = A := ⟨_, rfl⟩
  rw [hA] at HY HN ⊢
  clear hA
  have HI := fun w => l1In_any (n : Int) 1 16 w
  by_cases h16 : 1 ≤ n ∧ n ≤ 16
  · rw [decide_eq_true (by omega), decide_eq_true (by omega), Bool.and_true] at HI
    have HI := Lib.hid HI
    have HV := Lib.hid hv
    obtain ⟨a, cap, rfl, hc⟩ := hv
    obtain ⟨x0, hx0, hl0, hc0⟩ := hc 0 (by omega)
    have HCp := Lib.hid (fun k (hk : k < n) w => sCopy_any (f k) w (hf k hk))
    have hL6 := hf 0 (by omega)
    have HS := Lib.hid (fun i k => cmb_step f i k)
    have HR : Hid (∀ (i k : Nat), (f k).size = (f 0).size → i < (f 0).size → ∃ h : i < (f k).size, ((f k)[i]).toNat = zb (f k) i) := Lib.hid (fun i k e hi => ⟨by omega, zb_at _ _ _⟩)
    obtain ⟨z, hz⟩ : ∃ z, f 0 = z := ⟨_, rfl⟩
    rw [hz] at hL6 hc0
    obtain ⟨W1, c, hcv, hH, hB⟩ : ∃ W1 c, (convert 9 36 (.string z)).run Tryd.prog w = .ok (.slice (some ⟨w.heap.size, 0, none⟩) z.size c) W1 ∧ RowB W1 w.heap.size z.size (zb z) ∧ Below w.heap.size w W1 :=
      ⟨_, _, Lib.run_convert_string_bytes w 9 36 5 z (u := .string) (by kernel_rfl) (by kernel_rfl) (by kernel_rfl), ⟨by rw [Lib.bytesWorld_size]; omega, bytes_row w 5 z⟩, below_bytesW w _ z⟩
    have hHv : RowB W1 w.heap.size z.size (fun l => cmbV f l (0 - 1)) := hH.congr (fun i _ => by show zb z i = zb (f 0) i; rw [hz])
    have HZ := Lib.hid hz
    have HST : Hid (∀ (W : World) (c : Nat), RowB W w.heap.size z.size (fun l => cmbV f l (n - 1)) → (convert 36 9 (.slice (some ⟨w.heap.size, 0, none⟩) z.size c)).run Tryd.prog W = .ok (.string (cmbS f n)) W) := Lib.hid (fun W c h => by
      have := str_cells (W := W) (g := w.heap.size) (n := z.size) (cap := c) (fun l hl => (h.2 l hl).1)
      rw [this]; unfold cmbS; rw [hz])
    obtain ⟨Y, hY⟩ : ∃ Y, cmbS f n = Y := ⟨_, rfl⟩
    rw [hY] at HY HST
    have HC : Hid (∀ k, k < n → w.cell? (x0.add k) = some (.string (f k))) := Lib.hid (fun k hk => by
      obtain ⟨x, hx, _, h2⟩ := hc k hk
      rw [hx0] at hx; injection hx with hx; rw [hx]; exact h2)
    clear hH hz hY hf hc hn HV
    have n0 : (0 : Int) < (n : Int) := by omega
    subst hx0
    have e0 : x0.add 0 = x0 := by unfold Addr.add; split <;> simp_all
    rw [e0] at hc0
    go_enter Tryd.func13, Tryd.ntmps13
    go_wp2_with fail
    refine (HI.out _).mono ?_
    rintro e w' ⟨rfl, rfl⟩
    go_wp2
    go_loopw [5] (fun t wr => ∃ k : Nat, k ≤ n ∧ t = .int .i64 k ∧ Hid (∀ t, t < k → cpyB (f t) = true ∧ (f t).size = z.size) ∧ Hid (∀ t, t + 1 < k → ∀ i, i < z.size → okC (cmbV f i t) (zb (f (t + 1)) i)) ∧ RowB wr w.heap.size z.size (fun l => cmbV f l (k - 1)) ∧ Below w.heap.size w wr) (fun t _ => n - (intOf t).toNat)
    case atStart => exact ⟨0, Nat.zero_le _, rfl, Lib.hid (fun t ht => absurd ht (Nat.not_lt_zero t)), Lib.hid (fun t ht => absurd ht (Nat.not_lt_zero _)), hHv, hB⟩
    case round =>
      clear hcv hHv hB hc0
      obtain ⟨k, hk, rfl, HV1, HV2, rR, rb⟩ := hrel
      by_cases hlt : k < n
      · have d1 := (rb.cell (p := x0.add k) (by rw [add_block]; exact hl0)).trans (HC.out k hlt)
        have d0 := (rb.cell (p := x0.add 0) (by rw [add_block]; exact hl0)).trans (HC.out 0 (by omega))
        rw [e0, HZ.out] at d0
        have i0 : (0 : Int) ≤ (k : Int) := by omega
        have i1 : (k : Int) < (n : Int) := by omega
        have hcp := HCp.out k hlt
        cases hq : cpyB (f k) with
        | false =>
          rw [hq] at hcp
          have HX := Lib.hid (HN.out (fun h => by have := (h.1.2 k hlt).1; rw [hq] at this; cases this))
          obtain ⟨y, hy⟩ : ∃ y, f k = y := ⟨_, rfl⟩
          rw [hy] at d1 hcp
          have HQ := Lib.hid hcp
          clear hcp hq hy
          go_wp2_with fail
          go_quiet ((go_at_call 29; exact quiet_same (HQ.out _)))
          have b2 := below_drewN rb nq
          go_wp2
          go_ret2
          exact ⟨ret_C HX.out, b2⟩
        | true =>
          rw [hq] at hcp
          by_cases hsz : (f k).size = z.size
          · obtain ⟨y, hy⟩ : ∃ y, f k = y := ⟨_, rfl⟩
            have HYk := Lib.hid hy
            have HSk := Lib.hid (fun i => HS.out i k)
            have HV3 : Hid (∀ t, t < k + 1 → cpyB (f t) = true ∧ (f t).size = z.size) := Lib.hid (fun t ht => by
              by_cases e : t = k
              · subst e; exact ⟨hq, hsz⟩
              · exact HV1.out t (by omega))
            have HV4 : Hid ((∀ j, j < z.size → 1 ≤ k → okC (cmbV f j (k - 1)) (zb y j)) → ∀ t, t + 1 < k + 1 → ∀ i, i < z.size → okC (cmbV f i t) (zb (f (t + 1)) i)) := Lib.hid (fun h t ht i hi => by
              by_cases e : t + 1 = k
              · subst e
                have := h i hi (by omega)
                rw [hy]; exact this
              · exact HV2.out t (by omega) i hi)
            have HNO : Hid (∀ j, j < z.size → 1 ≤ k → ¬ okC (cmbV f j (k - 1)) (zb y j) → A = noS) := Lib.hid (fun j hj h1 h => HN.out (fun hp => h (by
              obtain ⟨t, rfl⟩ : ∃ t, k = t + 1 := ⟨k - 1, by omega⟩
              have := hp.2 t hlt j (by rw [HZ.out]; exact hj)
              rw [hy] at this; exact this)))
            have HK0 : Hid (k = 0 → ∀ i, cmbV f i (k - 1) = zb y i) := Lib.hid (fun h i => by subst h; rw [← hy]; rfl)
            rw [hy] at d1 hcp hsz
            simp only [hy] at HSk
            have HQ := Lib.hid hcp
            have hne : ((y.size : Int) != (z.size : Int)) = false := by rw [bne_eq_false_iff_eq]; omega
            clear hcp hq hy HV1 HV2
            go_wp2_with fail
            go_quiet ((go_at_call 29; exact quiet_same (HQ.out _)))
            have b2 := below_drewN rb nq
            have R2 := (rR.below (below_drewN (Below.refl _ _) nq)).congr (f' := fun l => if l < 0 then cmbV f l k else cmbV f l (k - 1)) (fun l _ => by simp)
            obtain ⟨W, hW⟩ : ∃ W, wr.drewN nq = W := ⟨_, rfl⟩
            rw [hW] at b2 R2 ⊢
            clear hW rb rR d1 d0
            go_wp2
            go_loopw [6] (fun t wr => ∃ i : Nat, i ≤ z.size ∧ t = .int .i64 i ∧ Hid (∀ j, j < i → 1 ≤ k → okC (cmbV f j (k - 1)) (zb y j)) ∧ RowB wr w.heap.size z.size (fun l => if l < i then cmbV f l k else cmbV f l (k - 1)) ∧ Below w.heap.size w wr) (fun t _ => z.size - (intOf t).toNat)
            case atStart => exact ⟨0, Nat.zero_le _, rfl, Lib.hid (fun t ht => absurd ht (Nat.not_lt_zero t)), R2, b2⟩
            case round =>
              clear R2 b2
              obtain ⟨i, hi, rfl, HO, rR, rb⟩ := hrel
              by_cases hli : i < z.size
              · have d1 := (rb.cell (p := x0.add k) (by rw [add_block]; exact hl0)).trans (HC.out k hlt)
                rw [HYk.out] at d1
                have j0 : (0 : Int) ≤ (i : Int) := by omega
                have j1 : (i : Int) < (y.size : Int) := by omega
                have j2 : (i : Int) < (z.size : Int) := by omega
                have hiy : i < y.size := by omega
                have hb := zb_at y i hiy
                obtain ⟨s1, s2⟩ := HSk.out i
                have k0 := fun h => HK0.out h i
                have no := HNO.out i hli
                have oks : ∀ (h : 1 ≤ k → okC (cmbV f i (k - 1)) (zb y i)), Hid (∀ j, j < i + 1 → 1 ≤ k → okC (cmbV f j (k - 1)) (zb y j)) := fun h => Lib.hid (fun j hj h1 => by
                  by_cases e : j = i
                  · subst e; exact h h1
                  · exact HO.out j (by omega) h1)
                have cc := rR.2 i hli
                simp only [if_neg (Nat.lt_irrefl i)] at cc
                obtain ⟨c1, c2⟩ := cc
                have set1 : ∀ N, cmbV f i k = N → Hid (RowB (wr.setCell ⟨w.heap.size, i, none⟩ (.int .u8 (N : Nat))) w.heap.size z.size (fun l => if l < i + 1 then cmbV f l k else cmbV f l (k - 1))) := fun N hN => Lib.hid (rR.set hli (fun l hl => by
                  by_cases e : l = i
                  · subst e; rw [if_pos (by omega), if_pos rfl, hN]
                  · rw [if_neg e]
                    by_cases e' : l < i
                    · rw [if_pos (by omega), if_pos e']
                    · rw [if_neg (by omega), if_neg e']))
                have same1 : cmbV f i k = cmbV f i (k - 1) → Hid (RowB wr w.heap.size z.size (fun l => if l < i + 1 then cmbV f l k else cmbV f l (k - 1))) := fun h => Lib.hid (rR.congr (fun l hl => by
                  by_cases e : l = i
                  · subst e; rw [if_neg (Nat.lt_irrefl _), if_pos (by omega), h]
                  · by_cases e' : l < i
                    · rw [if_pos e', if_pos (by omega)]
                    · rw [if_neg e', if_neg (by omega)]))
                obtain ⟨V, hV⟩ : ∃ V, cmbV f i (k - 1) = V := ⟨_, rfl⟩
                obtain ⟨N, hN⟩ : ∃ N, cmbV f i k = N := ⟨_, rfl⟩
                obtain ⟨B, hB⟩ : ∃ B, zb y i = B := ⟨_, rfl⟩
                rw [hV] at c1 no oks same1
                simp only [hV, hB] at k0
                rw [hV, hN] at s2
                rw [hV, hN, hB] at s1
                rw [hB] at hb no oks
                rw [hN] at same1
                by_cases hv : V = 63
                · obtain rfl := s1 hv
                  have nR := set1 N hN
                  have nb : Hid (Below w.heap.size w (wr.setCell ⟨w.heap.size, i, none⟩ (.int .u8 (N : Nat)))) := Lib.hid (rb.setCell (p := ⟨w.heap.size, i, none⟩) (Nat.le_refl _) _)
                  have HO2 := oks (fun _ => .inl hv)
                  subst hv
                  clear set1 same1 oks no s2 hV hN hB k0 rR rb s1
                  go_wp2
                  go_roundw
                  case rel => exact ⟨i + 1, by omega, by go_num, HO2, nR.out, nb.out⟩
                  case measure => simp [intOf]; omega
                · have e1 := s2 hv
                  have v1 : ((V : Int) == 63) = false := by rw [beq_eq_false_iff_ne]; omega
                  have nR := same1 e1
                  by_cases hk63 : okC V B
                  · have HO2 := oks (fun _ => hk63)
                    have hcase : B = 63 ∨ (B ≠ 63 ∧ B = V) := by rcases hk63 with h | h | h <;> omega
                    clear set1 same1 oks no s2 hV hN hB k0 rR s1 hk63 hv e1
                    rcases hcase with rfl | ⟨h1, rfl⟩
                    · have n1 : (((63 : Nat) : Int) != 63) = false := by decide
                      go_wp2_with fail
                      go_quiet (fail)
                      have b2 := below_drewN rb nq
                      have R2 := nR.out.below (below_drewN (Below.refl _ _) nq)
                      obtain ⟨W, hW⟩ : ∃ W, wr.drewN nq = W := ⟨_, rfl⟩
                      rw [hW] at b2 R2 ⊢
                      clear hW rb nR d1 c1 c2
                      go_wp2
                      go_roundw
                      case rel => exact ⟨i + 1, by omega, by go_num, HO2, R2, b2⟩
                      case measure => simp [intOf]; omega
                    · have n1 : ((B : Int) != 63) = true := by rw [bne_iff_ne]; omega
                      have n2 : ((B : Int) != (B : Int)) = false := by rw [bne_eq_false_iff_eq]
                      go_wp2_with fail
                      go_quiet (fail)
                      have b2 := below_drewN rb nq
                      have R2 := nR.out.below (below_drewN (Below.refl _ _) nq)
                      obtain ⟨W, hW⟩ : ∃ W, wr.drewN nq = W := ⟨_, rfl⟩
                      rw [hW] at b2 R2 ⊢
                      clear hW rb nR d1 c1 c2
                      go_wp2
                      go_roundw
                      case rel => exact ⟨i + 1, by omega, by go_num, HO2, R2, b2⟩
                      case measure => simp [intOf]; omega
                  · have hk1 : 1 ≤ k := by
                      rcases Nat.eq_zero_or_pos k with h | h
                      · exact absurd (.inr (.inl (k0 h).symm)) hk63
                      · exact h
                    have HX := Lib.hid (no hk1 hk63)
                    have h1 : B ≠ 63 := fun h => hk63 (.inr (.inr h))
                    have h2 : B ≠ V := fun h => hk63 (.inr (.inl h))
                    have n1 : ((B : Int) != 63) = true := by rw [bne_iff_ne]; omega
                    have n2 : ((B : Int) != (V : Int)) = true := by rw [bne_iff_ne]; omega
                    clear set1 same1 oks no s2 hV hN hB k0 rR s1 hk63 hv e1 h1 h2
                    go_wp2_with fail
                    go_quiet (fail)
                    have b2 := below_drewN rb nq
                    go_wp2
                    go_ret2
                    exact ⟨ret_C HX.out, b2⟩
              · obtain rfl : i = z.size := by omega
                have R2 : Hid (RowB wr w.heap.size z.size (fun l => cmbV f l (k + 1 - 1))) := Lib.hid (rR.congr (fun l hl => by rw [if_pos hl]; rfl))
                have HO2 := Lib.hid (HV4.out HO.out)
                clear rR
                go_wp2
                go_roundw
                case rel => exact ⟨k + 1, by omega, by go_num, HV3, HO2, R2.out, rb⟩
                case measure => simp [intOf]; omega
          · have HX := Lib.hid (HN.out (fun h => hsz (by have := (h.1.2 k hlt).2; rw [HZ.out] at this; exact this)))
            obtain ⟨y, hy⟩ : ∃ y, f k = y := ⟨_, rfl⟩
            rw [hy] at d1 hcp hsz
            have HQ := Lib.hid hcp
            have hne : ((y.size : Int) != (z.size : Int)) = true := by rw [bne_iff_ne]; omega
            clear hcp hq hy hsz
            go_wp2_with fail
            go_quiet ((go_at_call 29; exact quiet_same (HQ.out _)))
            have b2 := below_drewN rb nq
            go_wp2
            go_ret2
            exact ⟨ret_C HX.out, b2⟩
      · obtain rfl : k = n := by omega
        have HX := Lib.hid (HY.out ⟨⟨h16, fun t ht => by rw [HZ.out]; exact HV1.out t ht⟩, fun t ht i hi => HV2.out t ht i (by rw [← HZ.out]; exact hi)⟩)
        have hst := HST.out wr c rR
        go_wp2
        go_ret2
        exact ⟨ret_C HX.out, rb⟩
  · have HX := Lib.hid (HN.out (fun h => h16 h.1.1))
    have hb : (decide ((1 : Int) ≤ (n : Int)) && decide ((n : Int) ≤ 16)) = false := by
      rw [Bool.and_eq_false_iff, decide_eq_false_iff_not, decide_eq_false_iff_not]; omega
    rw [hb] at HI
    have HI := Lib.hid HI
    obtain ⟨a, cap, rfl, _⟩ := hv
    clear h16 hb hf
    go_enter Tryd.func13, Tryd.ntmps13
    go_wp2_with fail
    refine (HI.out _).mono ?_
    rintro e w' ⟨rfl, rfl⟩
    go_wp2
    go_ret2
    exact ⟨ret_C HX.out, Below.refl _ _⟩
end Go.Proofs.YtpacaelnmpdnhaaDoor
