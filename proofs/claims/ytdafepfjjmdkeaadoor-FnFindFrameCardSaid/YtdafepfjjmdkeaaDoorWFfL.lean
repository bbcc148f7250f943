/- The walk of the law FnFindFrame. -/
import Derived.Test.YtdafepfjjmdkeaaDoorFndI
import Derived.Test.YtdafepfjjmdkeaaDoorDrawFnd
namespace Go.Proofs.YtdafepfjjmdkeaaDoor
open Go.RowKit
set_option linter.unusedVariables false
set_option maxRecDepth 100000
set_option maxHeartbeats 1600000 in
theorem fnFindFrame_walk (a0 : Option Addr) (len0 cap0 : Nat) (z0 : List Int) (w : World) (w0 : IsBytes w a0 len0 cap0 z0) (hd : DoorAt w) :
    Calls Tryd.prog 7 #[.slice a0 len0 cap0] w fun e w' => e = .returned (.bool true) ∧ Below w.heap.size w w' := by
  by_cases hl : 1048576 < len0
  · go_enter Tryd.func7, Tryd.ntmps7
    go_wp2
    go_ret
    exact ⟨rfl, Below.refl _ _⟩
  go_enter Tryd.func7, Tryd.ntmps7
  go_wp2_with fail
  refine (drawFind_any a0 len0 cap0 z0 _ w0).mono ?_
  rintro e W1 ⟨z, n, rfl, hz, hn, b1⟩
  clear w0
  have HI := Lib.hid (fun w1 (b1 : Below w.heap.size w w1) => iFind_any z n w1 (by omega) (hd.below b1 hd.lt))
  have HS := Lib.hid (fun w => sFind_any z n w (by omega))
  by_cases h0 : n < 0
  · have e1 : fndV z n = -1 := fndV_no (fun h => by omega)
    simp only [e1] at HI HS
    clear e1
    go_wp2_with fail
    refine (HI.out _ b1).mono ?_
    rintro e w' ⟨rfl, hB⟩
    have c1 := below_then b1 (Nat.le_refl _) hB
    clear hB b1
    go_wp2_with fail
    refine (HS.out _).mono ?_
    rintro e w' ⟨rfl, hB⟩
    have c2 := below_then c1 (Nat.le_refl _) hB
    clear hB c1
    go_wp2_with fail
    refine (HS.out _).mono ?_
    rintro e w' ⟨rfl, hB⟩
    have c3 := below_then c2 (Nat.le_refl _) hB
    clear hB c2
    go_wp2
    go_ret
    exact ⟨rfl, c3⟩
  · obtain ⟨a, rfl⟩ : ∃ a : Nat, n = a := ⟨n.toNat, by omega⟩
    -- from the index up to 'end' none begins
    have hP := fun (i : Nat) w => sParse_any z (i : Int) w (by omega)
    have hPi := fun (i : Nat) w => iParse_any z (i : Int) w (by omega)
    obtain ⟨M, V, hMV, hM6, hV, hno⟩ : ∃ (M : Nat) (V : Int), fndV z (a : Int) = V ∧ M ≤ 700 ∧ ((V = -1 ∧ M = z.size) ∨ (V = M ∧ a ≤ M ∧ M < z.size)) ∧ ∀ i, a ≤ i → i < M → parAns z (i : Int) = noP := by
      by_cases hf : bitsB z = true ∧ nx z a < z.size
      · refine ⟨nx z a, _, rfl, by omega, .inr ⟨fndV_yes hf.1 hf.2, nx_le z a, hf.2⟩, fun i h1 h2 => par_no (fun h => ?_)⟩
        rw [Int.toNat_natCast, nx_none h1 h2] at h
        exact absurd h.2.2.2 (by simp)
      · refine ⟨z.size, _, rfl, hz, .inl ⟨fndV_no (fun h => hf ⟨h.1, by rw [Int.toNat_natCast] at h; exact h.2.2⟩), rfl⟩, fun i h1 h2 => par_no (fun h => ?_)⟩
        rw [Int.toNat_natCast] at h
        have h3 : z.size ≤ nx z a := by
          rcases Nat.lt_or_ge (nx z a) z.size with h4 | h4
          · exact absurd ⟨h.1, h4⟩ hf
          · exact h4
        rw [nx_none h1 (by omega)] at h
        exact absurd h.2.2.2 (by simp)
    simp only [hMV] at HI HS
    have HP := Lib.hid (fun i (h1 : a ≤ i) (h2 : i < M) w => by have := hPi i w; rw [hno i h1 h2] at this; exact this)
    clear hP hPi hMV hno
    rcases hV with ⟨rfl, hMz⟩ | ⟨rfl, haM, hMz⟩
    all_goals
      go_wp2_with fail
      refine (HI.out _ b1).mono ?_
      rintro e w' ⟨rfl, hB⟩
      have c1 := below_then b1 (Nat.le_refl _) hB
      clear hB b1
      go_wp2_with fail
      refine (HS.out _).mono ?_
      rintro e w' ⟨rfl, hB⟩
      have c2 := below_then c1 (Nat.le_refl _) hB
      clear hB c1 HI HS
    · subst hMz
      go_wp2
      go_loopw [7] (fun i wr => ∃ k : Nat, a ≤ k ∧ i = .int .i64 k ∧ Below w.heap.size w wr) (fun i _ => z.size - (intOf i).toNat)
      case atStart => exact ⟨a, Nat.le_refl _, rfl, c2⟩
      case round =>
        clear c2
        obtain ⟨k, hk, rfl, rb⟩ := hrel
        by_cases hlt : k < z.size
        · have i1 : (k : Int) < (z.size : Int) := by omega
          have HPk := Lib.hid (HP.out k hk hlt)
          go_wp2_with fail
          refine (HPk.out _).mono ?_
          rintro e w' ⟨rfl, hB⟩
          have d1 := below_then rb (Nat.le_refl _) hB
          clear hB rb
          go_wp2
          go_roundw
          case rel => exact ⟨k + 1, by omega, by go_num, d1⟩
          case measure => simp [intOf]; omega
        · have i1 : ¬ (k : Int) < (z.size : Int) := by omega
          go_wp2
          go_ret
          exact ⟨rfl, rb⟩
    · have i2 : (a : Int) ≤ (M : Int) := by omega
      have i3 : (M : Int) < (z.size : Int) := by omega
      go_wp2
      go_loopw [7] (fun i wr => ∃ k : Nat, a ≤ k ∧ i = .int .i64 k ∧ Below w.heap.size w wr) (fun i _ => M - (intOf i).toNat)
      case atStart => exact ⟨a, Nat.le_refl _, rfl, c2⟩
      case round =>
        clear c2
        obtain ⟨k, hk, rfl, rb⟩ := hrel
        by_cases hlt : k < M
        · have i1 : (k : Int) < (M : Int) := by omega
          have HPk := Lib.hid (HP.out k hk hlt)
          go_wp2_with fail
          refine (HPk.out _).mono ?_
          rintro e w' ⟨rfl, hB⟩
          have d1 := below_then rb (Nat.le_refl _) hB
          clear hB rb
          go_wp2
          go_roundw
          case rel => exact ⟨k + 1, by omega, by go_num, d1⟩
          case measure => simp [intOf]; omega
        · have i1 : ¬ (k : Int) < (M : Int) := by omega
          go_wp2
          go_ret
          exact ⟨rfl, rb⟩
end Go.Proofs.YtdafepfjjmdkeaaDoor
