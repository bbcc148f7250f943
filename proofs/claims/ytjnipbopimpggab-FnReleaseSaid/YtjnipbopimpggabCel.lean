/- Names, losses, targets, stations by value: both sides. -/
import Derived.Test.YtjnipbopimpggabUsr0
import Derived.Test.YtjnipbopimpggabFam1
namespace Go.Proofs.Ytjnipbopimpggab
open Go.RowKit
set_option linter.unusedVariables false
set_option maxRecDepth 100000
/-- Are the first n bytes of a text letters from a to z? -/
def letB (s : ByteArray) (n : Nat) : Bool := (s.data.toList.take n).all (fun c => decide (97 ≤ c.toNat) && decide (c.toNat ≤ 122))
def nameB (s : ByteArray) : Bool := letB s s.size && (decide (1 ≤ s.size) && decide (s.size ≤ 8))
theorem letB_succ (s : ByteArray) (k : Nat) (h : k < s.size) : letB s (k + 1) = (letB s k && (decide (97 ≤ s[k].toNat) && decide (s[k].toNat ≤ 122))) := by
  unfold letB
  rw [take_snoc' s k h, List.all_append]
  simp
theorem letB_mono (s : ByteArray) : ∀ d k, k + d ≤ s.size → letB s k = false → letB s (k + d) = false
  | 0, _, _, h => h
  | d + 1, k, hk, h => by
    rw [← Nat.add_assoc, letB_succ s (k + d) (by omega), letB_mono s d k (by omega) h]; rfl
theorem letB_bad (s : ByteArray) (k : Nat) (h : k < s.size) (h1 : ¬ (97 ≤ s[k].toNat ∧ s[k].toNat ≤ 122)) : letB s s.size = false := by
  have h3 : letB s (k + 1) = false := by
    rw [letB_succ s k h]
    have e1 : (decide (97 ≤ s[k].toNat) && decide (s[k].toNat ≤ 122)) = false := by
      by_cases e : 97 ≤ s[k].toNat
      · rw [decide_eq_false (fun e2 => h1 ⟨e, e2⟩), Bool.and_false]
      · rw [decide_eq_false e, Bool.false_and]
    rw [e1]; simp
  have := letB_mono s (s.size - (k + 1)) (k + 1) (by omega) h3
  rwa [show k + 1 + (s.size - (k + 1)) = s.size by omega] at this
theorem letB_good (s : ByteArray) (k : Nat) (h : k < s.size) (hk : letB s k = true) (h1 : 97 ≤ s[k].toNat) (h2 : s[k].toNat ≤ 122) : letB s (k + 1) = true := by
  rw [letB_succ s k h, hk, decide_eq_true h1, decide_eq_true h2]; rfl
theorem name_iff (s : ByteArray) : nameB s = true ↔ letB s s.size = true ∧ 1 ≤ s.size ∧ s.size ≤ 8 := by
  unfold nameB; simp only [Bool.and_eq_true, decide_eq_true_eq]
theorem name_size {s : ByteArray} (h : ¬ (1 ≤ s.size ∧ s.size ≤ 8)) : false = nameB s := by
  cases e : nameB s with
  | false => rfl
  | true => exact absurd ((name_iff s).1 e).2 h
theorem name_bad {s : ByteArray} (h : letB s s.size = false) : false = nameB s := by unfold nameB; rw [h]; rfl
theorem name_good {s : ByteArray} (h : letB s s.size = true) (h1 : 1 ≤ s.size) (h2 : s.size ≤ 8) : true = nameB s := ((name_iff s).2 ⟨h, h1, h2⟩).symm
theorem name_in {s : ByteArray} (h : letB s s.size = true) : (decide (1 ≤ (s.size : Int)) && decide ((s.size : Int) ≤ 8)) = nameB s := by
  unfold nameB; rw [h, Bool.true_and]
  congr 1 <;> exact decide_eq_decide.2 (by omega)
/-- A station. -/
def stnG (g d : Int) : Bool := decide (0 ≤ g) && (decide (g ≤ 1000) && (decide (1 ≤ d) && decide (d ≤ 20)))
theorem stnG_iff (g d : Int) : stnG g d = true ↔ 0 ≤ g ∧ g ≤ 1000 ∧ 1 ≤ d ∧ d ≤ 20 := by unfold stnG; simp only [Bool.and_eq_true, decide_eq_true_eq]
def stnB (c p : ByteArray) (g d : Int) : Bool := nameB c && (pathB p && stnG g d)
theorem stnB_iff (c p : ByteArray) (g d : Int) : stnB c p g d = true ↔ nameB c = true ∧ pathB p = true ∧ 0 ≤ g ∧ g ≤ 1000 ∧ 1 ≤ d ∧ d ≤ 20 := by
  unfold stnB; rw [Bool.and_eq_true, Bool.and_eq_true, stnG_iff]
theorem stn_no {c p : ByteArray} {g d : Int} (h : ¬ (nameB c = true ∧ pathB p = true ∧ 0 ≤ g ∧ g ≤ 1000 ∧ 1 ≤ d ∧ d ≤ 20)) : false = stnB c p g d := by
  cases e : stnB c p g d with
  | false => rfl
  | true => exact absurd ((stnB_iff _ _ _ _).1 e) h
theorem stn_yes {c p : ByteArray} {g d : Int} (h : nameB c = true ∧ pathB p = true ∧ 0 ≤ g ∧ g ≤ 1000 ∧ 1 ≤ d ∧ d ≤ 20) : true = stnB c p g d := ((stnB_iff _ _ _ _).2 h).symm
theorem nameValid_any (s : ByteArray) (w : World) (hs : s.size ≤ 9223372036854775807) :
    Calls Try.prog 37 #[.string s] w fun e w' => e = .returned (.bool (nameB s)) ∧ w = w' := by
  by_cases h0 : 1 ≤ s.size
  · by_cases h8 : s.size ≤ 8
    · have n0 : ((s.size : Int) == 0) = false := by simp; intro e; rw [e] at h0; exact absurd h0 (by decide)
      have l8 : ¬ 8 < s.size := by omega
      go_enter Try.func37, Try.ntmps37
      go_wp2
      go_loop [14] (fun i => ∃ k : Nat, k ≤ s.size ∧ i = .int .i64 k ∧ Hid (letB s k = true)) (fun i => s.size - (intOf i).toNat)
      case atStart => exact ⟨0, by omega, rfl, Lib.hid rfl⟩
      case round =>
        obtain ⟨k, hk, rfl, HO⟩ := hrel
        by_cases hlt : k < s.size
        · by_cases c0 : 97 ≤ s[k].toNat
          · have a1 : ¬ ((s[k].toNat : Nat) : Int) < 97 := by omega
            by_cases c1 : s[k].toNat ≤ 122
            · have HG := Lib.hid (letB_good s k hlt HO.out c0 c1)
              have a2 : ¬ (122 : Int) < ((s[k].toNat : Nat) : Int) := by omega
              clear HO
              go_wp2
              go_round
              case rel => exact ⟨k + 1, by omega, by go_num, HG⟩
              case measure => simp [intOf]; omega
            · have HB := Lib.hid (name_bad (letB_bad s k hlt (fun h => c1 h.2)))
              have a2 : (122 : Int) < ((s[k].toNat : Nat) : Int) := by omega
              go_wp2
              go_ret
              exact ⟨ret_bool HB.out, rfl⟩
          · have HB := Lib.hid (name_bad (letB_bad s k hlt (fun h => c0 h.1)))
            have a1 : ((s[k].toNat : Nat) : Int) < 97 := by omega
            go_wp2
            go_ret
            exact ⟨ret_bool HB.out, rfl⟩
        · obtain rfl : k = s.size := by omega
          have HB := Lib.hid (name_good HO.out h0 h8)
          go_wp2
          go_ret
          exact ⟨ret_bool HB.out, rfl⟩
    · have HB := Lib.hid (name_size (s := s) (fun h => h8 h.2))
      have l8 : 8 < s.size := by omega
      have n0 : ((s.size : Int) == 0) = false := by simp; intro e; rw [e] at h0; exact absurd h0 (by decide)
      go_enter Try.func37, Try.ntmps37
      go_wp2
      go_ret
      exact ⟨ret_bool HB.out, rfl⟩
  · have HB := Lib.hid (name_size (s := s) (fun h => h0 h.1))
    have hz : s.size = 0 := by omega
    have n0 : ((s.size : Int) == 0) = true := by simp [hz]
    clear hz
    go_enter Try.func37, Try.ntmps37
    go_wp2
    go_ret
    exact ⟨ret_bool HB.out, rfl⟩
theorem l8Name_any (s : ByteArray) (w : World) (hs : s.size ≤ 9223372036854775807) :
    Calls Try.prog 42 #[.string s] w fun e w' => e = .returned (.bool (nameB s)) ∧ w = w' := by
  go_enter Try.func42, Try.ntmps42
  go_wp2
  go_loop [3] (fun i => ∃ k : Nat, k ≤ s.size ∧ i = .int .i64 k ∧ Hid (letB s k = true)) (fun i => s.size - (intOf i).toNat)
  case atStart => exact ⟨0, by omega, rfl, Lib.hid rfl⟩
  case round =>
    obtain ⟨k, hk, rfl, HO⟩ := hrel
    by_cases hlt : k < s.size
    · by_cases c0 : 97 ≤ s[k].toNat
      · have a1 : ¬ ((s[k].toNat : Nat) : Int) < 97 := by omega
        by_cases c1 : s[k].toNat ≤ 122
        · have HG := Lib.hid (letB_good s k hlt HO.out c0 c1)
          have a2 : ¬ (122 : Int) < ((s[k].toNat : Nat) : Int) := by omega
          clear HO
          go_wp2
          go_round
          case rel => exact ⟨k + 1, by omega, by go_num, HG⟩
          case measure => simp [intOf]; omega
        · have HB := Lib.hid (name_bad (letB_bad s k hlt (fun h => c1 h.2)))
          have a2 : (122 : Int) < ((s[k].toNat : Nat) : Int) := by omega
          go_wp2
          go_ret
          exact ⟨ret_bool HB.out, rfl⟩
      · have HB := Lib.hid (name_bad (letB_bad s k hlt (fun h => c0 h.1)))
        have a1 : ((s[k].toNat : Nat) : Int) < 97 := by omega
        go_wp2
        go_ret
        exact ⟨ret_bool HB.out, rfl⟩
    · obtain rfl : k = s.size := by omega
      have HI := fun w => l1In_any (s.size : Int) 1 8 w
      rw [name_in HO.out] at HI
      have HJ := Lib.hid HI
      clear HI
      go_wp2_with fail
      refine (HJ.out _).mono ?_
      rintro e w' ⟨rfl, rfl⟩
      go_wp2
      go_ret
      exact ⟨rfl, rfl⟩
theorem lossValid_any (n : Int) (w : World) :
    Calls Try.prog 39 #[.int .i64 n] w fun e w' => e = .returned (.bool (decide (1 ≤ n) && decide (n ≤ 20))) ∧ w = w' := by
  by_cases h1 : 1 ≤ n
  · go_enter Try.func39, Try.ntmps39
    go_wp2
    go_ret
    exact ⟨ret_bool (by rw [decide_eq_true h1, Bool.true_and]), rfl⟩
  · go_enter Try.func39, Try.ntmps39
    go_wp2
    go_ret
    exact ⟨ret_bool (by rw [decide_eq_false (show ¬ (1 ≤ n) by omega)]; rfl), rfl⟩
theorem targetValid_any (n : Int) (w : World) :
    Calls Try.prog 24 #[.int .i64 n] w fun e w' => e = .returned (.bool (decide (0 ≤ n) && decide (n ≤ 40))) ∧ w = w' := by
  by_cases h1 : 0 ≤ n
  · go_enter Try.func24, Try.ntmps24
    go_wp2
    go_ret
    exact ⟨ret_bool (by rw [decide_eq_true h1, Bool.true_and]), rfl⟩
  · go_enter Try.func24, Try.ntmps24
    go_wp2
    go_ret
    exact ⟨ret_bool (by rw [decide_eq_false (show ¬ (0 ≤ n) by omega)]; rfl), rfl⟩
theorem l8Target_any (n : Int) (w : World) :
    Calls Try.prog 27 #[.int .i64 n] w fun e w' => e = .returned (.bool (decide (0 ≤ n) && decide (n ≤ 40))) ∧ w = w' := by
  have HI := Lib.hid (fun w => l1In_any n 0 40 w)
  go_enter Try.func27, Try.ntmps27
  go_wp2_with fail
  refine (HI.out _).mono ?_
  rintro e w' ⟨rfl, rfl⟩
  go_wp2
  go_ret
  exact ⟨rfl, rfl⟩
end Go.Proofs.Ytjnipbopimpggab
