/- The laws' helpers on slices of stations. -/
import Derived.Test.YtjnipbopimpggaaStn
namespace Go.Proofs.Ytjnipbopimpggaa
open Go.RowKit
set_option linter.unusedVariables false
set_option maxRecDepth 100000
set_option maxHeartbeats 1600000 in
theorem toStationS_any (v : Value) (n : Nat) (f : Nat → Usr) (w : World) (h : UsrsR w v n f) (hn : n ≤ 1048576) :
    Calls Try.prog 15 #[v] w fun e w' => ∃ u, e = .returned u ∧ TF w' w.heap.size u n f ∧ Below w.heap.size w w' := by
  obtain ⟨a, cap, rfl, hc⟩ := h
  have HC := Lib.hid hc
  clear hc
  have hmk := make_stations n hn
  have O0 := TF.made w n hn
  have b0 := (Below.refl w.heap.size w).alloc (Nat.le_refl _) (.cells (madeCells #[.string ⟨#[]⟩, .string ⟨#[]⟩, .int .i64 0, .int .i64 0] (n * 4)) 33)
  go_enter Try.func15, Try.ntmps15
  go_wp2
  go_loopw [4] (fun i wr => ∃ (k : Nat) (F : Nat → Usr), k ≤ n ∧ i = .int .i64 k ∧ TF wr w.heap.size (.slice (some ⟨w.heap.size, 0, none⟩) n n) n F ∧ Hid (∀ i, i < k → F i = f i) ∧ Below w.heap.size w wr) (fun i _ => n - (intOf i).toNat)
  case atStart => exact ⟨0, _, by omega, rfl, O0, Lib.hid (fun i hi => absurd hi (Nat.not_lt_zero i)), b0⟩
  case round =>
    obtain ⟨k, F, hk, rfl, rO, rF, rb⟩ := hrel
    clear hmk O0 b0
    by_cases hlt : k < n
    · obtain ⟨b, o, rfl, hx, hcc⟩ := HC.out k hlt
      obtain ⟨c0, c1, c2, c3⟩ := hcc.below rb hx
      have i0 : (0 : Int) ≤ (k : Int) := by omega
      have i1 : (k : Int) < (n : Int) := by omega
      obtain ⟨C, hC⟩ : ∃ C, (f k).code = C := ⟨_, rfl⟩
      obtain ⟨D, hD⟩ : ∃ C, (f k).data = C := ⟨_, rfl⟩
      obtain ⟨X, hX⟩ : ∃ C, (f k).gain = C := ⟨_, rfl⟩
      obtain ⟨Y, hY⟩ : ∃ C, (f k).delay = C := ⟨_, rfl⟩
      rw [hC] at c0
      rw [hD] at c1
      rw [hX] at c2
      rw [hY] at c3
      have HK := Lib.hid (show (⟨C, D, X, Y⟩ : Usr) = f k by rw [← hC, ← hD, ← hX, ← hY])
      clear hC hD hX hY hcc
      go_wp2_with fail
      refine (toStation_any C D X Y _).mono ?_
      rintro e w5 ⟨rfl, hb⟩
      have O5 := rO.below hb
      have r5 := below_then rb (Nat.le_refl _) hb
      clear c0 c1 c2 c3 hb rO rb
      obtain ⟨d0, d1, d2, d3⟩ := O5.cells k hlt
      have fr := O5.free
      have O6 := Lib.hid (O5.put k C D X Y)
      have r6 := Lib.hid (r5.grown (grown4 (k * 4) (k * 4 + 1) (k * 4 + 2) (k * 4 + 3) (.string C) (.string D) (.int .i64 X) (.int .i64 Y)) r5.size (fun q hq => by cases hq; exact Nat.le_refl _))
      have F6 : Hid (∀ i, i < k + 1 → upU F k ⟨C, D, X, Y⟩ i = f i) := Lib.hid (fun i hi => by
        by_cases e : i = k
        · rw [e, upU_eq]; exact HK.out
        · rw [upU_ne e]; exact rF.out i (by omega))
      clear O5 r5 rF
      go_wp2
      go_roundw
      case rel => exact ⟨k + 1, _, by omega, by go_num, O6.out, F6, r6.out⟩
      case measure => simp [intOf]; omega
    · obtain rfl : n = k := by omega
      have O7 := Lib.hid (rO.congr (g := f) rF.out)
      clear rO rF
      go_wp2
      go_ret
      exact ⟨_, rfl, O7.out, rb⟩
set_option maxHeartbeats 1600000 in
theorem eqStationS_same (v u : Value) (n : Nat) (f : Nat → Usr) (w : World) (hv : UsrsR w v n f) (hu : UsrsR w u n f) (hn : n ≤ 1048576) :
    Calls Try.prog 17 #[v, u] w fun e w' => e = .returned (.bool true) ∧ Below w.heap.size w w' := by
  obtain ⟨a, cap, rfl, ha⟩ := hv
  obtain ⟨b, cap', rfl, hb⟩ := hu
  have HA := Lib.hid ha
  have HB := Lib.hid hb
  clear ha hb
  go_enter Try.func17, Try.ntmps17
  go_wp2
  go_loopw [5] (fun i wr => ∃ k : Nat, k ≤ n ∧ i = .int .i64 k ∧ Below w.heap.size w wr) (fun i _ => n - (intOf i).toNat)
  case atStart => exact ⟨0, by omega, rfl, Below.refl _ _⟩
  case round =>
    obtain ⟨k, hk, rfl, rb⟩ := hrel
    by_cases hlt : k < n
    · obtain ⟨x, o, rfl, hx, hcc⟩ := HA.out k hlt
      obtain ⟨y, p, rfl, hy, hdd⟩ := HB.out k hlt
      obtain ⟨c0, c1, c2, c3⟩ := hcc.below rb hx
      obtain ⟨d0, d1, d2, d3⟩ := hdd.below rb hy
      have i0 : (0 : Int) ≤ (k : Int) := by omega
      have i1 : (k : Int) < (n : Int) := by omega
      obtain ⟨C, hC⟩ : ∃ C, (f k).code = C := ⟨_, rfl⟩
      obtain ⟨D, hD⟩ : ∃ C, (f k).data = C := ⟨_, rfl⟩
      obtain ⟨X, hX⟩ : ∃ C, (f k).gain = C := ⟨_, rfl⟩
      obtain ⟨Y, hY⟩ : ∃ C, (f k).delay = C := ⟨_, rfl⟩
      rw [hC] at c0 d0
      rw [hD] at c1 d1
      rw [hX] at c2 d2
      rw [hY] at c3 d3
      clear hC hD hX hY hcc hdd
      have rd := below_drew rb
      go_wp2_with fail
      go_still_tail 8, (by kernel_rfl)
      clear c0 c1 c2 c3 d0 d1 d2 d3
      go_wp2_with fail
      refine (eqStation_same C D X Y _).mono ?_
      rintro e w5 ⟨rfl, hb⟩
      have r5 := below_then rd (Nat.le_refl _) hb
      clear hb rd rb
      go_wp2
      go_roundw
      case rel => exact ⟨k + 1, by omega, by go_num, r5⟩
      case measure => simp [intOf]; omega
    · obtain rfl : n = k := by omega
      go_wp2
      go_ret
      exact ⟨rfl, rb⟩
/-- The marks on stations. -/
def mkU (i : Nat) : Usr := ⟨mkT (1 + 4 * i), mkT (1 + 4 * i + 1), 1 + 4 * (i : Int) + 1 + 1, 1 + 4 * (i : Int) + 1 + 1 + 1⟩
set_option maxHeartbeats 3200000 in
theorem markStationS_any (v : Value) (B n : Nat) (f : Nat → Usr) (w : World) (hv : TF w B v n f) (hn : n ≤ 1048576) :
    Calls Try.prog 28 #[v, .int .i64 1] w fun e w' => e = .returned (.int .i64 (1 + 4 * (n : Int))) ∧ TF w' B v n mkU ∧ w.grownBy w' v.ownBlock := by
  obtain ⟨a, cap, rfl, ha⟩ := hv.form
  by_cases h0 : 0 < n
  · obtain ⟨g, rfl, hBg, hgl⟩ := ha h0
    clear ha
    have HV := Lib.hid hv
    clear hv
    go_enter Try.func28, Try.ntmps28
    go_wp2
    go_loopw [5, 1] (fun i q wr => ∃ (k : Nat) (F : Nat → Usr), k ≤ n ∧ i = .int .i64 k ∧ q = .int .i64 (1 + 4 * (k : Int)) ∧ TF wr B (.slice (some ⟨g, 0, none⟩) n cap) n F ∧ Hid (∀ i, i < k → F i = mkU i) ∧ w.grownBy wr (some g)) (fun i _ _ => n - (intOf i).toNat)
    case atStart => exact ⟨0, f, by omega, rfl, rfl, HV.out, Lib.hid (fun i hi => absurd hi (Nat.not_lt_zero i)), ⟨rfl, rfl, rfl, Nat.le_refl _, fun _ _ _ => rfl⟩⟩
    case round =>
      obtain ⟨k, F, hk, rfl, rfl, rO, rF, rg⟩ := hrel
      by_cases hlt : k < n
      · have i0 : (0 : Int) ≤ (k : Int) := by omega
        have i1 : (k : Int) < (n : Int) := by omega
        have hM := fun w => markText_any (1 + 4 * k) w (by omega) (by omega)
        have hM2 := fun w => markText_any (1 + 4 * k + 1) w (by omega) (by omega)
        rw [show ((1 + 4 * k : Nat) : Int) = 1 + 4 * (k : Int) by omega] at hM
        rw [show ((1 + 4 * k + 1 : Nat) : Int) = 1 + 4 * (k : Int) + 1 by omega] at hM2
        obtain ⟨y, hy⟩ : ∃ y, mkT (1 + 4 * k) = y := ⟨_, rfl⟩
        obtain ⟨z, hz⟩ : ∃ y, mkT (1 + 4 * k + 1) = y := ⟨_, rfl⟩
        rw [hy] at hM
        rw [hz] at hM2
        have HU := Lib.hid (show (⟨y, z, 1 + 4 * (k : Int) + 1 + 1, 1 + 4 * (k : Int) + 1 + 1 + 1⟩ : Usr) = mkU k by rw [← hy, ← hz]; rfl)
        have HM := Lib.hid hM
        have HM2 := Lib.hid hM2
        clear hM hM2 hy hz
        have one : Hid (∀ (W : World) (p : Nat) (u : Value), W.grownBy (W.setCell ⟨g, p, none⟩ u) (some g)) := Lib.hid (fun W p u => ⟨rfl, rfl, rfl, by simp, fun k hk hne => Below.heap_setCell _ _ _ _ (fun e => hne (by rw [e]))⟩)
        go_wp2_with fail
        refine (HM.out _).mono ?_
        rintro e w5 ⟨rfl, hb⟩
        have O5 := rO.below hb
        have g5 := rg.trans (grownAny (grown_of_below hb) (some g))
        clear hb rO rg
        obtain ⟨c0, c1, c2, c3⟩ := O5.cells k hlt
        have fr := O5.free
        have O6 := O5.set0 k y
        have g6 := g5.trans (one.out w5 (k * 4) (.string y))
        obtain ⟨W6, hW⟩ : ∃ W, w5.setCell ⟨g, k * 4, none⟩ (.string y) = W := ⟨_, rfl⟩
        have HO := Lib.hid O6
        have HG := Lib.hid g6
        have HW := Lib.hid hW
        clear O6 g6 hW O5 g5
        go_wp2_with fail
        refine (HM2.out _).mono ?_
        rintro e w7 ⟨rfl, hb⟩
        rw [HW.out] at hb
        have O6 := HO.out
        have g6 := HG.out
        rw [HW.out] at O6 g6
        have O7 := O6.below hb
        have g7 := g6.trans (grownAny (grown_of_below hb) (some g))
        clear hb O6 g6 c0 c1 c2 c3 fr HO HG HW
        obtain ⟨c0, c1, c2, c3⟩ := O7.cells k hlt
        have fr := O7.free
        have o8 := ((O7.set1 k z).set2 k (1 + 4 * (k : Int) + 1 + 1)).set3 k (1 + 4 * (k : Int) + 1 + 1 + 1)
        simp only [upU_eq, upU_up] at o8
        have O8 := Lib.hid o8
        clear o8
        have F8 : Hid (∀ i, i < k + 1 → upU F k ⟨y, z, 1 + 4 * (k : Int) + 1 + 1, 1 + 4 * (k : Int) + 1 + 1 + 1⟩ i = mkU i) := Lib.hid (fun i hi => by
          by_cases e : i = k
          · rw [e, upU_eq]; exact HU.out
          · rw [upU_ne e]; exact rF.out i (by omega))
        have g8 := Lib.hid (((g7.trans (one.out _ (k * 4 + 1) (.string z))).trans (one.out _ (k * 4 + 2) (.int .i64 (1 + 4 * (k : Int) + 1 + 1)))).trans (one.out _ (k * 4 + 3) (.int .i64 (1 + 4 * (k : Int) + 1 + 1 + 1))))
        clear O7 g7
        go_wp2
        go_roundw
        case rel => exact ⟨k + 1, _, by omega, by go_num, by go_num, O8.out, F8, g8.out⟩
        case measure => simp [intOf]; omega
      · obtain rfl : n = k := by omega
        have O9 := Lib.hid (rO.congr rF.out)
        clear rO rF
        go_wp2
        go_ret
        exact ⟨rfl, O9.out, rg⟩
  · obtain rfl : n = 0 := by omega
    clear ha
    have HV := Lib.hid (hv.congr (g := mkU) (fun i hi => absurd hi (Nat.not_lt_zero i)))
    clear hv
    go_enter Try.func28, Try.ntmps28
    go_wp2
    go_loop [5, 1] (fun i q => i = .int .i64 (0 : Nat) ∧ q = .int .i64 1) (fun i _ => (intOf i).toNat)
    case atStart => exact ⟨rfl, rfl⟩
    case round =>
      obtain ⟨rfl, rfl⟩ := hrel
      go_wp2
      go_ret
      exact ⟨rfl, HV.out, ⟨rfl, rfl, rfl, Nat.le_refl _, fun _ _ _ => rfl⟩⟩
set_option maxHeartbeats 3200000 in
theorem heldStationS_any (v : Value) (B n : Nat) (w : World) (hv : TF w B v n mkU) (hn : n ≤ 1048576) :
    Calls Try.prog 29 #[v, .int .i64 1] w fun e w' => e = .returned (.int .i64 (1 + 4 * (n : Int))) ∧ Below w.heap.size w w' := by
  obtain ⟨a, cap, rfl, hc⟩ := hv.stations
  have HC := Lib.hid hc
  clear hc hv
  go_enter Try.func29, Try.ntmps29
  go_wp2
  go_loopw [5, 1] (fun i q wr => ∃ k : Nat, k ≤ n ∧ i = .int .i64 k ∧ q = .int .i64 (1 + 4 * (k : Int)) ∧ Below w.heap.size w wr) (fun i _ _ => n - (intOf i).toNat)
  case atStart => exact ⟨0, by omega, rfl, rfl, Below.refl _ _⟩
  case round =>
    obtain ⟨k, hk, rfl, rfl, rb⟩ := hrel
    by_cases hlt : k < n
    · obtain ⟨g, o, rfl, hgl, hcc⟩ := HC.out k hlt
      have i0 : (0 : Int) ≤ (k : Int) := by omega
      have i1 : (k : Int) < (n : Int) := by omega
      have hM := fun w => markText_any (1 + 4 * k) w (by omega) (by omega)
      have hM2 := fun w => markText_any (1 + 4 * k + 1) w (by omega) (by omega)
      rw [show ((1 + 4 * k : Nat) : Int) = 1 + 4 * (k : Int) by omega] at hM
      rw [show ((1 + 4 * k + 1 : Nat) : Int) = 1 + 4 * (k : Int) + 1 by omega] at hM2
      obtain ⟨c0, c1, c2, c3⟩ := hcc.below rb hgl
      unfold mkU at c0 c1 c2 c3
      dsimp only at c0 c1 c2 c3
      obtain ⟨y, hy⟩ : ∃ y, mkT (1 + 4 * k) = y := ⟨_, rfl⟩
      obtain ⟨z, hz⟩ : ∃ y, mkT (1 + 4 * k + 1) = y := ⟨_, rfl⟩
      rw [hy] at hM c0
      rw [hz] at hM2 c1
      have HM := Lib.hid hM
      have HM2 := Lib.hid hM2
      clear hM hM2 hy hz hcc
      have hgl2 : g < wr.heap.size := Nat.lt_of_lt_of_le hgl rb.size
      have r0 := Below.refl wr.heap.size wr
      go_wp2_with fail
      go_region_held3 (fun wx => Below wr.heap.size wr wx ∧ wx.cell? ⟨g, o + k * 4, none⟩ = some (.string y)) (first | exact ⟨c50, c51⟩ | exact ⟨r0.drew, c0⟩) (first | (go_at_call 52; refine (HM.out _).mono ?_; rintro e w5 ⟨rfl, hB⟩; have c50 := below_then r0.drew (Nat.le_refl _) hB; have c51 : w5.cell? ⟨g, o + k * 4, none⟩ = some (.string y) := (c50.cell (p := ⟨g, o + k * 4, none⟩) hgl2).trans c0))
      all_goals
        have r5 := below_then rb (Nat.le_refl _) c50
        have hgl5 : g < w5.heap.size := Nat.lt_of_lt_of_le hgl2 c50.size
        have d1 : w5.cell? ⟨g, o + k * 4 + 1, none⟩ = some (.string z) := (c50.cell (p := ⟨g, o + k * 4 + 1, none⟩) hgl2).trans c1
        have d2 := (c50.cell (p := ⟨g, o + k * 4 + 2, none⟩) hgl2).trans c2
        have d3 := (c50.cell (p := ⟨g, o + k * 4 + 3, none⟩) hgl2).trans c3
        clear c0 c1 c2 c3 c50 c51 r0 rb
        have r0 := Below.refl w5.heap.size w5
        go_wp2_with fail
        go_region_held3 (fun wx => Below w5.heap.size w5 wx ∧ wx.cell? ⟨g, o + k * 4 + 1, none⟩ = some (.string z)) (first | exact ⟨c60, c61⟩ | exact ⟨r0.drew, d1⟩) (first | (go_at_call 52; refine (HM2.out _).mono ?_; rintro e w6 ⟨rfl, hB⟩; have c60 := below_then r0.drew (Nat.le_refl _) hB; have c61 : w6.cell? ⟨g, o + k * 4 + 1, none⟩ = some (.string z) := (c60.cell (p := ⟨g, o + k * 4 + 1, none⟩) hgl5).trans d1))
        all_goals
          have r6 := below_then r5 (Nat.le_refl _) c60
          have e2 := (c60.cell (p := ⟨g, o + k * 4 + 2, none⟩) hgl5).trans d2
          have e3 := (c60.cell (p := ⟨g, o + k * 4 + 3, none⟩) hgl5).trans d3
          clear d1 d2 d3 c60 c61 r0 r5
          go_wp2
          go_roundw
          case rel => exact ⟨k + 1, by omega, by go_num, by go_num, r6⟩
          case measure => simp [intOf]; omega
    · obtain rfl : k = n := by omega
      go_wp2
      go_ret
      exact ⟨rfl, rb⟩
end Go.Proofs.Ytjnipbopimpggaa
