/- MaximalTaps of both sides: the same list, laid anew. -/
import Derived.Test.YtmlmpekhcnjehaaTapsI
import Derived.Test.YtmlmpekhcnjehaaDraw5
import Derived.Test.YtmlmpekhcnjehaaRegWalk
import Derived.Deep.RegionWith
namespace Go.Proofs.Ytmlmpekhcnjehaa
open Go.RowKit
set_option linter.unusedVariables false
/-- For each taps of a size, both sides tell the same. -/
theorem oneMaximal (s t : Nat) (h2 : 2 ≤ s) (h8 : s ≤ 8) (ht : t < tw s) : ∃ bb : Bool, (t = 0 → bb = false) ∧
    (1 ≤ t → ∀ w, Calls Try.prog 46 #[.int .i64 s, .int .i64 t] w fun e w' => e = .returned (.bool bb) ∧ Below w.heap.size w w') ∧
    (∀ w, Calls Try.prog 17 #[.int .i64 s, .int .i64 t] w fun e w' => e = .returned (.bool bb) ∧ Below w.heap.size w w') := by
  by_cases h0 : t = 0
  · exact ⟨false, fun _ => rfl, fun h => absurd h (by omega), iMaximal_none _ _ (by
      cases hb : tapsB s t with
      | false => rfl
      | true => have h := (tapsB_iff _ _).1 hb; omega)⟩
  · have hr : RegN s t 1 := ⟨h2, h8, by omega, ht, by have := tw_four s h2; omega⟩
    obtain ⟨N, hN, e0, hm⟩ := orbit_ends hr
    have hv : tapsB s t = true := (tapsB_iff _ _).2 ⟨by omega, by omega, by omega, by rw [Int.toNat_natCast]; omega⟩
    exact ⟨_, fun e => absurd e h0, fun _ => l1Maximal_from s t _ h8 (fun w => sPeriodOf_yes s t 1 w hr N hN e0 hm), iMaximal_from s t _ h8 hv (fun w => iPeriodOf_yes s t 1 w hr N hN e0 hm)⟩
theorem allMaximal (s : Nat) (h2 : 2 ≤ s) (h8 : s ≤ 8) : ∃ M : Nat → Bool, M 0 = false ∧ ∀ t : Nat, t < tw s →
    (1 ≤ t → ∀ w, Calls Try.prog 46 #[.int .i64 s, .int .i64 t] w fun e w' => e = .returned (.bool (M t)) ∧ Below w.heap.size w w') ∧
    (∀ w, Calls Try.prog 17 #[.int .i64 s, .int .i64 t] w fun e w' => e = .returned (.bool (M t)) ∧ Below w.heap.size w w') := by
  have h : ∀ t : Nat, ∃ bb : Bool, t < tw s → (t = 0 → bb = false) ∧
      (1 ≤ t → ∀ w, Calls Try.prog 46 #[.int .i64 s, .int .i64 t] w fun e w' => e = .returned (.bool bb) ∧ Below w.heap.size w w') ∧
      (∀ w, Calls Try.prog 17 #[.int .i64 s, .int .i64 t] w fun e w' => e = .returned (.bool bb) ∧ Below w.heap.size w w') := fun t => by
    by_cases ht : t < tw s
    · obtain ⟨bb, h⟩ := oneMaximal s t h2 h8 ht; exact ⟨bb, fun _ => h⟩
    · exact ⟨false, fun h => absurd h ht⟩
  obtain ⟨M, hM⟩ := Classical.axiomOfChoice h
  exact ⟨M, (hM 0 (tw_pos s)).1 rfl, fun t ht => (hM t ht).2⟩
set_option maxHeartbeats 1600000 in
set_option maxRecDepth 100000 in
theorem sTaps_of (s : Nat) (M : Nat → Bool) (w : World) (h2 : 2 ≤ s) (h8 : s ≤ 8) (h0 : M 0 = false)
    (hM : ∀ t : Nat, 1 ≤ t → t < tw s → ∀ w, Calls Try.prog 46 #[.int .i64 s, .int .i64 t] w fun e w' => e = .returned (.bool (M t)) ∧ Below w.heap.size w w') :
    Calls Try.prog 23 #[.int .i64 s] w fun e w' => ∃ v, e = .returned v ∧ OF w' w.heap.size v (cntT M (tw s)) (lstF M (tw s)) ∧ Below w.heap.size w w' := by
  have htw := tw_le s (by omega)
  have htw4 := tw_four s h2
  have HM := Lib.hid hM
  have HY : Hid (∀ (t : Nat) w, 1 ≤ t → t < tw s → Calls Try.prog 45 #[.int .i64 s, .int .i64 t] w fun e w' => e = .returned (.bool true) ∧ w = w') := fun t w h1 h3 => l1Taps_yes _ _ w ((tapsB_iff _ _).2 ⟨by omega, by omega, by omega, by rw [Int.toNat_natCast]; omega⟩)
  have HN : Hid (∀ (t : Nat) w, tw s ≤ t → Calls Try.prog 45 #[.int .i64 s, .int .i64 t] w fun e w' => e = .returned (.bool false) ∧ w = w') := fun t w h1 => l1Taps_no _ _ w (by
    cases hb : tapsB s t with
    | false => rfl
    | true => have h := (tapsB_iff _ _).1 hb; rw [Int.toNat_natCast] at h; omega)
  obtain ⟨T, hT⟩ : ∃ T, tw s = T := ⟨_, rfl⟩
  rw [hT] at HM HY HN htw htw4 ⊢
  have H1 : Hid (cntT M 1 = 0 ∧ lstF M 1 = fun _ => 0) := Lib.hid (cntT_no h0)
  clear hT hM h0
  go_enter Try.func23, Try.ntmps23
  go_wp2
  go_loopw [3, 4] (fun v i wr => ∃ k : Nat, 1 ≤ k ∧ k ≤ T ∧ i = .int .i64 k ∧ OF wr w.heap.size v (cntT M k) (lstF M k) ∧ Below w.heap.size w wr) (fun _ i _ => T - (intOf i).toNat)
  case atStart => exact ⟨1, by omega, by omega, rfl, by rw [H1.out.1]; exact OF.empty w _, (Below.refl _ _).alloc (Nat.le_refl _) _⟩
  case round =>
    obtain ⟨k, hk1, hk2, rfl, rO, rb⟩ := hrel
    have hcl := cntT_le M k
    by_cases hlt : k < T
    · have HMM := Lib.hid (HM.out k hk1 hlt)
      go_wp2_with fail
      refine (HY.out k _ hk1 hlt).mono ?_
      rintro e w1 ⟨rfl, rfl⟩
      cases hb : M k with
      | false =>
        obtain ⟨e1, e2⟩ := cntT_no hb
        rw [hb] at HMM
        rw [← e1, ← e2] at rO
        clear e1 e2 hb
        go_wp2_with fail
        refine (HMM.out _).mono ?_
        rintro e w1 ⟨rfl, hB⟩
        have O1 := rO.below hB
        have b1 := below_then rb (Nat.le_refl _) hB
        clear rO rb hB
        go_wp2
        go_roundw
        case rel => exact ⟨k + 1, by omega, by omega, by go_num, O1, b1⟩
        case measure => simp [intOf]; omega
      | true =>
        obtain ⟨e1, e2⟩ := cntT_yes hb
        have HE1 := Lib.hid e1
        have HE2 := Lib.hid e2
        rw [hb] at HMM
        obtain ⟨n, hn⟩ : ∃ n, cntT M k = n := ⟨_, rfl⟩
        obtain ⟨f, hf⟩ : ∃ f, lstF M k = f := ⟨_, rfl⟩
        rw [hn] at rO hcl HE1 HE2
        rw [hf] at rO HE2
        clear e1 e2 hb hn hf
        go_wp2_with fail
        refine (HMM.out _).mono ?_
        rintro e w1 ⟨rfl, hB⟩
        have O1 := rO.below hB
        have b1 := below_then rb (Nat.le_refl _) hB
        clear rO rb hB
        go_wp2_with (at_builtin; refine wpList_append_int rfl _ _ rfl w.heap.size _ n f rfl (O1.alloc _) w1.heap.size 1 (k : Int) rfl ?c1 ?c2 ?c3 ?_; rotate_left 3; intro v' w' O2 g2)
        case c1 => simp
        case c2 => omega
        case c3 => have := b1.size; simp; omega
        have hb' : Below w.heap.size w w' := (b1.alloc b1.size _).grown g2 (by have := b1.size; simp; omega) (fun q hq => (O1.lt q hq).1)
        rw [← HE1.out, ← HE2.out] at O2
        clear O1 b1 g2
        go_wp2
        go_roundw
        case rel => exact ⟨k + 1, by omega, by omega, by go_num, O2, hb'⟩
        case measure => simp [intOf]; omega
    · obtain rfl : k = T := by omega
      go_wp2_with fail
      refine (HN.out k _ (Nat.le_refl _)).mono ?_
      rintro e w1 ⟨rfl, rfl⟩
      go_wp2
      go_ret
      exact ⟨_, rfl, rO, rb⟩
set_option maxRecDepth 100000 in
theorem bothMaximalTaps (S : Int) : ∃ (n : Nat) (f : Nat → Int), n ≤ 1000000 ∧
    (∀ w, Calls Try.prog 23 #[.int .i64 S] w fun e w' => ∃ v, e = .returned v ∧ OF w' w.heap.size v n f ∧ Below w.heap.size w w') ∧
    (∀ w, Calls Try.prog 12 #[.int .i64 S] w fun e w' => ∃ v, e = .returned v ∧ OF w' w.heap.size v n f ∧ Below w.heap.size w w') := by
  by_cases hS : 2 ≤ S ∧ S ≤ 8
  · obtain ⟨s, rfl⟩ : ∃ s : Nat, S = s := ⟨S.toNat, by omega⟩
    obtain ⟨M, h0, hM⟩ := allMaximal s (by omega) (by omega)
    have := cntT_le M (tw s)
    have := tw_le s (by omega)
    exact ⟨cntT M (tw s), lstF M (tw s), by omega, fun w => sTaps_of s M w (by omega) (by omega) h0 (fun t h1 h3 => (hM t h3).1 h1), fun w => iTaps_of s M w (by omega) (by omega) (fun t h3 => (hM t h3).2)⟩
  · refine ⟨0, fun _ => 0, by omega, fun w => ?_, fun w => ?_⟩
    · have HN := Lib.hid (fun w => l1Taps_no S 1 w (by
        cases hb : tapsB S 1 with
        | false => rfl
        | true => exact absurd ⟨((tapsB_iff _ _).1 hb).1, ((tapsB_iff _ _).1 hb).2.1⟩ hS))
      go_enter Try.func23, Try.ntmps23
      go_wp2
      go_loop [3, 4] (fun v i => v = .slice (some ⟨w.heap.size, 0, none⟩) 0 0 ∧ i = .int .i64 (1 : Nat)) (fun _ i => (intOf i).toNat)
      case atStart => exact ⟨rfl, rfl⟩
      case round =>
        obtain ⟨rfl, rfl⟩ := hrel
        go_wp2_with fail
        refine (HN.out _).mono ?_
        rintro e w1 ⟨rfl, rfl⟩
        go_wp2
        go_ret
        exact ⟨_, rfl, OF.empty w _, (Below.refl _ _).alloc (Nat.le_refl _) _⟩
    · have HZ := Lib.hid (fun w => sizeValid_no S w hS)
      go_enter Try.func12, Try.ntmps12
      go_wp2_with fail
      refine (HZ.out _).mono ?_
      rintro e w1 ⟨rfl, rfl⟩
      go_wp2
      go_ret
      exact ⟨_, rfl, OF.nil _ _ _, Below.refl _ _⟩
end Go.Proofs.Ytmlmpekhcnjehaa
