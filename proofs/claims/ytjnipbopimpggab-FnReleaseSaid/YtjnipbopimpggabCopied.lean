/- Copied stations. -/
import Derived.Test.YtjnipbopimpggabCel3
import Derived.Test.YtjnipbopimpggabTF
import Derived.Test.YtjnipbopimpggabClone
import Derived.Deep.RegionHeld3
namespace Go.Proofs.Ytjnipbopimpggab
open Go.RowKit
set_option linter.unusedVariables false
set_option maxRecDepth 100000
set_option maxHeartbeats 3200000 in
theorem copied_any (v : Value) (n : Nat) (f : Nat → Usr) (w : World) (h : UsrsC w v n f) (hn : n ≤ 1048576) (hf : UsrSz n f) :
    Calls Try.prog 29 #[v] w fun e w' => ∃ u, e = .returned u ∧ TF w' w.heap.size u n f ∧ Below w.heap.size w w' := by
  obtain ⟨a, cap, rfl, -, hc⟩ := h
  have HC := Lib.hid hc
  have HF := Lib.hid hf
  clear hc hf
  have hmk := make_stations n hn
  have O0 := TF.made w n hn
  have b0 := (Below.refl w.heap.size w).alloc (Nat.le_refl _) (.cells (madeCells #[.string ⟨#[]⟩, .string ⟨#[]⟩, .int .i64 0, .int .i64 0] (n * 4)) 30)
  go_enter Try.func29, Try.ntmps29
  go_wp2
  go_loopw [11] (fun i wr => ∃ (k : Nat) (F : Nat → Usr), k ≤ n ∧ i = .int .i64 k ∧ TF wr w.heap.size (.slice (some ⟨w.heap.size, 0, none⟩) n n) n F ∧ Hid (∀ i, i < k → F i = f i) ∧ Below w.heap.size w wr) (fun i _ => n - (intOf i).toNat)
  case atStart => exact ⟨0, _, by omega, rfl, O0, Lib.hid (fun i hi => absurd hi (Nat.not_lt_zero i)), b0⟩
  case round =>
    obtain ⟨k, F, hk, rfl, rO, rF, rb⟩ := hrel
    clear hmk O0 b0
    by_cases hlt : k < n
    · obtain ⟨b, o, rfl, hx, hcc⟩ := HC.out k hlt
      obtain ⟨f1, f2⟩ := HF.out k hlt
      obtain ⟨c0, c1, c2, c3⟩ := hcc.below rb hx
      have i0 : (0 : Int) ≤ (k : Int) := by omega
      have i1 : (k : Int) < (n : Int) := by omega
      obtain ⟨C, hC⟩ : ∃ C, (f k).code = C := ⟨_, rfl⟩
      obtain ⟨D, hD⟩ : ∃ C, (f k).data = C := ⟨_, rfl⟩
      obtain ⟨X, hX⟩ : ∃ C, (f k).gain = C := ⟨_, rfl⟩
      obtain ⟨Y, hY⟩ : ∃ C, (f k).delay = C := ⟨_, rfl⟩
      rw [hC] at c0 f1
      rw [hD] at c1 f2
      rw [hX] at c2
      rw [hY] at c3
      have HK := Lib.hid (show (⟨C, D, X, Y⟩ : Usr) = f k by rw [← hC, ← hD, ← hX, ← hY])
      have HA := Lib.hid (fun w => clone_any C w f1)
      have HB := Lib.hid (fun w => clone_any D w f2)
      clear hC hD hX hY hcc f1 f2
      have r1 := rb.alloc rb.size (.cells #[.string C, .string D, .int .i64 X, .int .i64 Y] 30)
      have u1 := UsrAt.new wr 30 C D X Y
      have O1 := rO.alloc (.cells #[.string C, .string D, .int .i64 X, .int .i64 Y] 30)
      go_wp2_with fail
      have rO9 := (rO.lt _ rfl).2
      clear c0 c1 c2 c3 rb rO
      obtain ⟨bx, hbx⟩ : ∃ b, wr.heap.size = b := ⟨_, rfl⟩
      have hne : some w.heap.size ≠ some bx := fun e => by injection e with e; have h1 := O1.lt _ rfl; have h2 := hbx; have h3 := rO9; omega
      rw [hbx] at u1 ⊢
      obtain ⟨V, hV⟩ : ∃ W, wr.alloc (.cells #[.string C, .string D, .int .i64 X, .int .i64 Y] 30) = W := ⟨_, rfl⟩
      rw [hV] at r1 O1 u1 ⊢
      clear hV hbx
      obtain ⟨x0, x1, x2, x3, x4⟩ := id u1
      have r0 := Below.refl V.heap.size V
      have z0 : UsrAt V.drew bx C D X Y := u1
      go_region_held3 (fun wx => wx.cell? ⟨bx, 0, none⟩ = some (.string C) ∧ wx.cell? ⟨bx, 1, none⟩ = some (.string D) ∧ wx.cell? ⟨bx, 2, none⟩ = some (.int .i64 X) ∧ wx.cell? ⟨bx, 3, none⟩ = some (.int .i64 Y)) (first | with_reducible exact y1.box | with_reducible exact y2.box | with_reducible exact z0.box | with_reducible exact (y1.kept (grown4 _ _ _ _ _ _ _ _) hne).box | with_reducible exact (y2.kept (grown4 _ _ _ _ _ _ _ _) hne).box) (first
        | (go_at_call 41; ((with_reducible refine (HA.out _).mono ?_); rintro e w5 ⟨rfl, hB⟩; have k1 : Below V.heap.size V w5 := (by first | exact below_then k2 (Nat.le_refl _) hB | exact below_then r0.drew (Nat.le_refl _) hB); have y1 := u1.below k1 x4; have fr := (O1.below k1).free; have kz := k1; have Oz := O1.below k1; obtain ⟨d0, d1, d2, d3⟩ := Oz.cells k hlt; clear hB))
        | (go_at_call 41; ((with_reducible refine (HB.out _).mono ?_); rintro e w6 ⟨rfl, hB⟩; have k2 : Below V.heap.size V w6 := (by first | exact below_then k1 (Nat.le_refl _) hB | exact below_then r0.drew (Nat.le_refl _) hB); have y2 := u1.below k2 x4; have fr := (O1.below k2).free; have kz := k2; have Oz := O1.below k2; obtain ⟨d0, d1, d2, d3⟩ := Oz.cells k hlt; clear hB)))
      all_goals
        have r5 := below_then r1 (Nat.le_refl _) kz
        have O6 := Lib.hid (Oz.put k C D X Y)
        have r6 := Lib.hid (r5.grown (grown4 (k * 4) (k * 4 + 1) (k * 4 + 2) (k * 4 + 3) (.string C) (.string D) (.int .i64 X) (.int .i64 Y)) r5.size (fun q hq => by cases hq; exact Nat.le_refl _))
        have F6 : Hid (∀ i, i < k + 1 → upU F k ⟨C, D, X, Y⟩ i = f i) := Lib.hid (fun i hi => by
          by_cases e : i = k
          · rw [e, upU_eq]; exact HK.out
          · rw [upU_ne e]; exact rF.out i (by omega))
        clear Oz r5 rF k1 k2 kz y1 y2 z0 x0 x1 x2 x3 x4 u1 r0 r1 O1 fr d0 d1 d2 d3
        go_wp2
        go_roundw
        case rel => exact ⟨k + 1, _, by omega, by go_num, O6.out, F6, r6.out⟩
        case measure => simp [intOf]; omega
    · obtain rfl : n = k := by omega
      have O7 := Lib.hid (rO.congr (g := f) rF.out)
      clear rO rF
      go_wp2
      go_ret
      exact ⟨_, rfl, O7.out, rb⟩
end Go.Proofs.Ytjnipbopimpggab
