/- ssCells of the laws: two slices of stations held against each other. -/
import Derived.Test.YtjnipbopimpggabCel3
import Derived.BigQuiet
namespace Go.Proofs.Ytjnipbopimpggab
open Go.RowKit
set_option linter.unusedVariables false
set_option maxRecDepth 100000
set_option maxHeartbeats 1600000 in
theorem ssCells_same (v u : Value) (n : Nat) (f : Nat → Usr) (w : World) (hv : UsrsR w v n f) (hu : UsrsR w u n f) (hn : n ≤ 1048576) :
    Calls Try.prog 16 #[v, u] w fun e w' => e = .returned (.bool true) ∧ ∃ m, w' = w.drewN m := by
  obtain ⟨a, cap, rfl, ha⟩ := hv
  obtain ⟨b, cap', rfl, hb⟩ := hu
  have HA := Lib.hid ha
  have HB := Lib.hid hb
  clear ha hb
  have e0 : ((n : Int) != (n : Int)) = false := by simp
  go_enter Try.func16, Try.ntmps16
  go_wp2
  clear e0
  go_loopw [5] (fun i wr => ∃ k m : Nat, k ≤ n ∧ i = .int .i64 k ∧ wr = w.drewN m) (fun i _ => n - (intOf i).toNat)
  case atStart => exact ⟨0, 0, by omega, rfl, rfl⟩
  case round =>
    obtain ⟨k, m, hk, rfl, rfl⟩ := hrel
    by_cases hlt : k < n
    · obtain ⟨x, o, rfl, hx, hcc⟩ := HA.out k hlt
      obtain ⟨y, p, rfl, hy, hdd⟩ := HB.out k hlt
      obtain ⟨c0, c1, c2, c3⟩ : UsrCells (w.drewN m) x (o + k * 4) (f k) := hcc
      obtain ⟨d0, d1, d2, d3⟩ : UsrCells (w.drewN m) y (p + k * 4) (f k) := hdd
      have i0 : (0 : Int) ≤ (k : Int) := by omega
      have i1 : (k : Int) < (n : Int) := by omega
      obtain ⟨C, hC⟩ : ∃ C, (f k).code = C := ⟨_, rfl⟩
      obtain ⟨D, hD⟩ : ∃ C, (f k).data = C := ⟨_, rfl⟩
      obtain ⟨X, hX⟩ : ∃ C, (f k).gain = C := ⟨_, rfl⟩
      obtain ⟨Y, hY⟩ : ∃ C, (f k).delay = C := ⟨_, rfl⟩
      rw [hC] at c0 d0
      rw [hD] at c1 d1
      rw [hX] at c2 d2
      rw [hY] at c3 d3
      obtain ⟨W, hW⟩ : ∃ W, w.drewN m = W := ⟨_, rfl⟩
      rw [hW] at c0 c1 c2 c3 d0 d1 d2 d3 ⊢
      have HW := Lib.hid hW
      clear hC hD hX hY hW
      go_wp2_with fail
      go_quiet (fail)
      clear c0 c1 c2 c3 d0 d1 d2 d3
      go_wp2
      go_roundw
      case rel => exact ⟨k + 1, m + nq, by omega, by go_num, by rw [← HW.out, World.drewN_drewN]⟩
      case measure => simp [intOf]; omega
    · obtain rfl : n = k := by omega
      go_wp2
      go_ret
      exact ⟨rfl, m, rfl⟩
/-- Are the gains of the first n stations the same? -/
def gnB (f g : Nat → Usr) : Nat → Bool
  | 0 => true
  | k + 1 => gnB f g k && decide ((f k).gain = (g k).gain)
theorem gnB_bad {f g : Nat → Usr} {k : Nat} (h : ¬ (f k).gain = (g k).gain) : ∀ n, k < n → gnB f g n = false
  | 0, hk => absurd hk (Nat.not_lt_zero k)
  | n + 1, hk => by
    simp only [gnB]
    by_cases e : k = n
    · rw [← e, decide_eq_false h, Bool.and_false]
    · rw [gnB_bad h n (by omega)]; rfl
set_option maxHeartbeats 1600000 in
theorem ssCells_gain (v u : Value) (n : Nat) (f g : Nat → Usr) (w : World) (hv : UsrsR w v n f) (hu : UsrsR w u n g) (hfg : ∀ i, i < n → (g i).code = (f i).code ∧ (g i).data = (f i).data ∧ (g i).delay = (f i).delay) (hn : n ≤ 1048576) :
    Calls Try.prog 16 #[v, u] w fun e w' => e = .returned (.bool (gnB f g n)) ∧ ∃ m, w' = w.drewN m := by
  obtain ⟨a, cap, rfl, ha⟩ := hv
  obtain ⟨b, cap', rfl, hb⟩ := hu
  have HA := Lib.hid ha
  have HB := Lib.hid hb
  have HFG := Lib.hid hfg
  clear ha hb hfg
  have e0 : ((n : Int) != (n : Int)) = false := by simp
  go_enter Try.func16, Try.ntmps16
  go_wp2
  clear e0
  go_loopw [5] (fun i wr => ∃ k m : Nat, k ≤ n ∧ i = .int .i64 k ∧ Hid (gnB f g k = true) ∧ wr = w.drewN m) (fun i _ => n - (intOf i).toNat)
  case atStart => exact ⟨0, 0, by omega, rfl, Lib.hid rfl, rfl⟩
  case round =>
    obtain ⟨k, m, hk, rfl, rG, rfl⟩ := hrel
    by_cases hlt : k < n
    · obtain ⟨x, o, rfl, hx, hcc⟩ := HA.out k hlt
      obtain ⟨y, p, rfl, hy, hdd⟩ := HB.out k hlt
      obtain ⟨c0, c1, c2, c3⟩ : UsrCells (w.drewN m) x (o + k * 4) (f k) := hcc
      obtain ⟨d0, d1, d2, d3⟩ : UsrCells (w.drewN m) y (p + k * 4) (g k) := hdd
      obtain ⟨q1, q2, q3⟩ := HFG.out k hlt
      rw [q1] at d0
      rw [q2] at d1
      rw [q3] at d3
      have i0 : (0 : Int) ≤ (k : Int) := by omega
      have i1 : (k : Int) < (n : Int) := by omega
      have hbad := fun h => gnB_bad (f := f) (g := g) (k := k) h n hlt
      have hgood : gnB f g (k + 1) = decide ((f k).gain = (g k).gain) := by simp only [gnB]; rw [rG.out]; rfl
      obtain ⟨C, hC⟩ : ∃ C, (f k).code = C := ⟨_, rfl⟩
      obtain ⟨D, hD⟩ : ∃ C, (f k).data = C := ⟨_, rfl⟩
      obtain ⟨X, hX⟩ : ∃ C, (f k).gain = C := ⟨_, rfl⟩
      obtain ⟨Z, hZ⟩ : ∃ C, (g k).gain = C := ⟨_, rfl⟩
      obtain ⟨Y, hY⟩ : ∃ C, (f k).delay = C := ⟨_, rfl⟩
      rw [hC] at c0 d0
      rw [hD] at c1 d1
      rw [hX] at c2 hbad hgood
      rw [hZ] at d2 hbad hgood
      rw [hY] at c3 d3
      obtain ⟨W, hW⟩ : ∃ W, w.drewN m = W := ⟨_, rfl⟩
      rw [hW] at c0 c1 c2 c3 d0 d1 d2 d3 ⊢
      have HW := Lib.hid hW
      clear hC hD hX hZ hY hW q1 q2 q3 rG
      by_cases e : X = Z
      · subst e
        have HG : Hid (gnB f g (k + 1) = true) := Lib.hid (by rw [hgood]; simp)
        clear hbad hgood
        go_wp2_with fail
        go_quiet (fail)
        clear c0 c1 c2 c3 d0 d1 d2 d3
        go_wp2
        go_roundw
        case rel => exact ⟨k + 1, m + nq, by omega, by go_num, HG, by rw [← HW.out, World.drewN_drewN]⟩
        case measure => simp [intOf]; omega
      · have HG := Lib.hid (hbad e)
        have e2 : (X == Z) = false := by simpa using e
        have e3 : (X != Z) = true := by simpa using e
        clear hbad hgood
        go_wp2_with fail
        go_quiet (fail)
        clear c0 c1 c2 c3 d0 d1 d2 d3
        go_wp2
        go_ret
        exact ⟨ret_bool HG.out.symm, m + nq, by rw [← HW.out, World.drewN_drewN]⟩
    · obtain rfl : n = k := by omega
      go_wp2
      go_ret
      exact ⟨ret_bool rG.out.symm, m, rfl⟩
end Go.Proofs.Ytjnipbopimpggab
