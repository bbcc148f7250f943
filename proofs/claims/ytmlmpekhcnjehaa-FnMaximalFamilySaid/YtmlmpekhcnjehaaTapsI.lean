/- MaximalTaps of the program: the chosen numbers, laid anew. -/
import Derived.Test.YtmlmpekhcnjehaaRegWalk
import Derived.Test.YtmlmpekhcnjehaaSeqTable
import Derived.Deep.RegionWith
namespace Go.Proofs.Ytmlmpekhcnjehaa
open Go.RowKit
set_option linter.unusedVariables false
/-- How many of the first numbers are chosen, and which. -/
def cntT (M : Nat → Bool) : Nat → Nat
  | 0 => 0
  | k + 1 => if M k then cntT M k + 1 else cntT M k
def lstF (M : Nat → Bool) : Nat → Nat → Int
  | 0 => fun _ => 0
  | k + 1 => if M k then fun j => if j < cntT M k then lstF M k j else (k : Int) else lstF M k
theorem cntT_le (M : Nat → Bool) : ∀ k, cntT M k ≤ k
  | 0 => Nat.le_refl _
  | k + 1 => by have := cntT_le M k; simp only [cntT]; split <;> omega
theorem cntT_no {M : Nat → Bool} {k : Nat} (h : M k = false) : cntT M (k + 1) = cntT M k ∧ lstF M (k + 1) = lstF M k := by simp [cntT, lstF, h]
theorem cntT_yes {M : Nat → Bool} {k : Nat} (h : M k = true) : cntT M (k + 1) = cntT M k + 1 ∧ lstF M (k + 1) = fun j => if j < cntT M k then lstF M k j else (k : Int) := by simp [cntT, lstF, h]
set_option maxRecDepth 100000 in
set_option maxHeartbeats 1600000 in
theorem iMaximal_from (s t : Nat) (A : Int) (h8 : s ≤ 8) (hv : tapsB s t = true) (hs : ∀ w, Calls Try.prog 37 #[.agg #[.int .i64 s, .int .i64 t, .int .i64 1]] w fun e w' => e = .returned (.int .i64 A) ∧ Below w.heap.size w w') (w : World) :
    Calls Try.prog 17 #[.int .i64 s, .int .i64 t] w fun e w' => e = .returned (.bool (decide (A = (tw s : Int) - 1))) ∧ Below w.heap.size w w' := by
  have HS := Lib.hid hs
  have hp := tw_pos s
  have ht := tw_le s h8
  have p2 : (2 : Int) ^ s = (tw s : Nat) := by
    have : s = 0 ∨ s = 1 ∨ s = 2 ∨ s = 3 ∨ s = 4 ∨ s = 5 ∨ s = 6 ∨ s = 7 ∨ s = 8 := by omega
    rcases this with rfl | rfl | rfl | rfl | rfl | rfl | rfl | rfl | rfl <;> simp [tw]
  have p3 : IntKind.i64.wrap ((2 : Int) ^ s) = (tw s : Nat) := by rw [p2]; exact IntWalk.i64_in _ (by omega)
  have HE : Hid (IntKind.i64.wrap (IntKind.i64.wrap ((2 : Int) ^ s) - 1) = (tw s : Int) - 1) := Lib.hid (by rw [p3]; exact IntWalk.i64_in _ (by omega))
  clear p2 p3
  clear hs
  by_cases hA : A = (tw s : Int) - 1
  · rw [decide_eq_true hA]
    subst hA
    go_enter Try.func17, Try.ntmps17
    go_wp2_with fail
    go_region_with ((first
      | (go_at_call 36; refine (tapsValid_yes _ _ _ hv).mono ?_; rintro e w' ⟨rfl, rfl⟩)
      | (go_at_call 37; refine (HS.out _).mono ?_; rintro e w5 ⟨rfl, hb⟩; have b5 : Below w.heap.size w w5 := below_then (Below.refl _ w).drew (Nat.le_refl _) hb)))
    all_goals
      go_wp2
      go_ret
      exact ⟨ret_bool (by rw [HE.out]; simp), b5⟩
  · rw [decide_eq_false hA]
    go_enter Try.func17, Try.ntmps17
    go_wp2_with fail
    go_region_with ((first
      | (go_at_call 36; refine (tapsValid_yes _ _ _ hv).mono ?_; rintro e w' ⟨rfl, rfl⟩)
      | (go_at_call 37; refine (HS.out _).mono ?_; rintro e w5 ⟨rfl, hb⟩; have b5 : Below w.heap.size w w5 := below_then (Below.refl _ w).drew (Nat.le_refl _) hb)))
    all_goals
      go_wp2
      go_ret
      exact ⟨ret_bool (by rw [HE.out]; simp [hA]), b5⟩
set_option maxRecDepth 100000 in
theorem iMaximal_none (S T : Int) (hb : tapsB S T = false) (w : World) :
    Calls Try.prog 17 #[.int .i64 S, .int .i64 T] w fun e w' => e = .returned (.bool false) ∧ Below w.heap.size w w' := by
  go_enter Try.func17, Try.ntmps17
  go_wp2_with fail
  go_quiet ((go_at_call 36; exact quiet_same (tapsValid_no _ _ _ hb)))
  go_wp2
  go_ret
  exact ⟨rfl, below_drewN (Below.refl _ w) _⟩
set_option maxHeartbeats 1600000 in
set_option maxRecDepth 100000 in
theorem iTaps_of (s : Nat) (M : Nat → Bool) (w : World) (h2 : 2 ≤ s) (h8 : s ≤ 8)
    (hM : ∀ t : Nat, t < tw s → ∀ w, Calls Try.prog 17 #[.int .i64 s, .int .i64 t] w fun e w' => e = .returned (.bool (M t)) ∧ Below w.heap.size w w') :
    Calls Try.prog 12 #[.int .i64 s] w fun e w' => ∃ v, e = .returned v ∧ OF w' w.heap.size v (cntT M (tw s)) (lstF M (tw s)) ∧ Below w.heap.size w w' := by
  have htw := tw_le s (by omega)
  have htw4 := tw_four s h2
  have HM := Lib.hid hM
  have HZ := Lib.hid (fun w => sizeValid_yes (s : Int) w (by omega) (by omega))
  have p2 : (2 : Int) ^ s = (tw s : Nat) := by
    have : s = 2 ∨ s = 3 ∨ s = 4 ∨ s = 5 ∨ s = 6 ∨ s = 7 ∨ s = 8 := by omega
    rcases this with rfl | rfl | rfl | rfl | rfl | rfl | rfl <;> simp [tw]
  have p3 : IntKind.i64.wrap ((2 : Int) ^ s) = (tw s : Nat) := by rw [p2]; exact IntWalk.i64_in _ (by omega)
  obtain ⟨T, hT⟩ : ∃ T, tw s = T := ⟨_, rfl⟩
  rw [hT] at HM htw htw4 p3 ⊢
  clear hT hM p2
  go_enter Try.func12, Try.ntmps12
  go_wp2_with fail
  refine (HZ.out _).mono ?_
  rintro e w1 ⟨rfl, rfl⟩
  go_wp2
  go_loopw [3, 10] (fun v i wr => ∃ k : Nat, k ≤ T ∧ i = .int .i64 k ∧ OF wr w.heap.size v (cntT M k) (lstF M k) ∧ Below w.heap.size w wr) (fun _ i _ => T - (intOf i).toNat)
  case atStart => exact ⟨0, by omega, rfl, OF.nil _ _ _, Below.refl _ _⟩
  case round =>
    obtain ⟨k, hk2, rfl, rO, rb⟩ := hrel
    have hcl := cntT_le M k
    by_cases hlt : k < T
    · have HMM := Lib.hid (HM.out k hlt)
      cases hb : M k with
      | false =>
        obtain ⟨e1, e2⟩ := cntT_no hb
        rw [hb] at HMM
        rw [← e1, ← e2] at rO
        clear e1 e2 hb
        go_wp2_with fail
        refine (HMM.out _).mono ?_
        rintro e w1 ⟨rfl, hB⟩
        have O1 := rO.below hB
        have b1 := below_then rb (Nat.le_refl _) hB
        clear rO rb hB
        go_wp2
        go_roundw
        case rel => exact ⟨k + 1, by omega, by go_num, O1, b1⟩
        case measure => simp [intOf]; omega
      | true =>
        obtain ⟨e1, e2⟩ := cntT_yes hb
        have HE1 := Lib.hid e1
        have HE2 := Lib.hid e2
        rw [hb] at HMM
        obtain ⟨n, hn⟩ : ∃ n, cntT M k = n := ⟨_, rfl⟩
        obtain ⟨f, hf⟩ : ∃ f, lstF M k = f := ⟨_, rfl⟩
        rw [hn] at rO hcl HE1 HE2
        rw [hf] at rO HE2
        clear e1 e2 hb hn hf
        go_wp2_with fail
        refine (HMM.out _).mono ?_
        rintro e w1 ⟨rfl, hB⟩
        have O1 := rO.below hB
        have b1 := below_then rb (Nat.le_refl _) hB
        clear rO rb hB
        go_wp2_with (at_builtin; refine wpList_append_int rfl _ _ rfl w.heap.size _ n f rfl (O1.alloc _) w1.heap.size 1 (k : Int) rfl ?c1 ?c2 ?c3 ?_; rotate_left 3; intro v' w' O2 g2)
        case c1 => simp
        case c2 => omega
        case c3 => have := b1.size; simp; omega
        have hb' : Below w.heap.size w w' := (b1.alloc b1.size _).grown g2 (by have := b1.size; simp; omega) (fun q hq => (O1.lt q hq).1)
        rw [← HE1.out, ← HE2.out] at O2
        clear O1 b1 g2
        go_wp2
        go_roundw
        case rel => exact ⟨k + 1, by omega, by go_num, O2, hb'⟩
        case measure => simp [intOf]; omega
    · obtain rfl : k = T := by omega
      go_wp2
      go_ret
      exact ⟨_, rfl, rO, rb⟩
end Go.Proofs.Ytmlmpekhcnjehaa
