/- Contracts of TreeConflict and BarkerValid, of both sides. -/
import Derived.Test.YtgkiilpcobgboaaSeqAper
import Derived.Test.YtgkiilpcobgboaaGold
namespace Go.Proofs.Ytgkiilpcobgboaa
open Go.RowKit
set_option linter.unusedVariables false
/-- A path: at most 6 bits. -/
def pathB (z : ByteArray) : Bool := okB z z.size && decide (z.size ≤ 6)
theorem pathB_iff (z : ByteArray) : pathB z = true ↔ okB z z.size = true ∧ z.size ≤ 6 := by unfold pathB; simp only [Bool.and_eq_true, decide_eq_true_eq]
theorem path_bits {z : ByteArray} (h : z.size ≤ 6) : bitsB z = pathB z := by unfold bitsB pathB; rw [decide_eq_true (by omega : z.size ≤ 600), decide_eq_true h]
theorem path_long {z : ByteArray} (h : ¬ z.size ≤ 6) : false = pathB z := by unfold pathB; rw [decide_eq_false h, Bool.and_false]
theorem path_nobits {z : ByteArray} (h : bitsB z = false) : false = pathB z := by
  by_cases h6 : z.size ≤ 6
  · rw [← path_bits h6, h]
  · exact path_long h6
theorem path_okbits {z : ByteArray} (h : bitsB z = true) : decide ((z.size : Int) ≤ 6) = pathB z := by
  unfold bitsB at h
  simp only [Bool.and_eq_true] at h
  unfold pathB
  rw [h.1, Bool.true_and, decide_eq_decide]; omega
set_option maxRecDepth 100000 in
theorem orderValid_any (S : Int) (w : World) :
    Calls Try.prog 22 #[.int .i64 S] w fun e w' => e = .returned (.bool (decide (0 ≤ S) && decide (S ≤ 6))) ∧ w = w' := by
  by_cases h1 : 0 ≤ S
  · go_enter Try.func22, Try.ntmps22
    go_wp2
    go_ret
    exact ⟨ret_bool (by simp [h1]), rfl⟩
  · go_enter Try.func22, Try.ntmps22
    go_wp2
    go_ret
    exact ⟨ret_bool (by rw [decide_eq_false (by omega : ¬ 0 ≤ S)]; rfl), rfl⟩
theorem orderValid_yes (S : Int) (w : World) (h1 : 0 ≤ S) (h2 : S ≤ 6) :
    Calls Try.prog 22 #[.int .i64 S] w fun e w' => e = .returned (.bool true) ∧ w = w' := by
  rw [← in_yes h1 h2]; exact orderValid_any S w
theorem orderValid_no (S : Int) (w : World) (h : ¬ (0 ≤ S ∧ S ≤ 6)) :
    Calls Try.prog 22 #[.int .i64 S] w fun e w' => e = .returned (.bool false) ∧ w = w' := by
  rw [← in_no h]; exact orderValid_any S w
set_option maxRecDepth 100000 in
theorem pathValid_any (z : ByteArray) (w : World) (hs : z.size ≤ 9223372036854775807) :
    Calls Try.prog 21 #[.string z] w fun e w' => e = .returned (.bool (pathB z)) ∧ w = w' := by
  by_cases h6 : z.size ≤ 6
  · have hb := fun w => bitsValid_any z w hs
    rw [path_bits h6] at hb
    go_enter Try.func21, Try.ntmps21
    go_wp2_with (first | (go_at_call 22; refine (orderValid_yes _ _ (by omega) (by omega)).mono ?_; rintro e w' ⟨rfl, rfl⟩) | (go_at_call 30; refine (hb _).mono ?_; rintro e w' ⟨rfl, rfl⟩))
    go_ret
    exact ⟨rfl, rfl⟩
  · have HL := Lib.hid (path_long h6)
    go_enter Try.func21, Try.ntmps21
    go_wp2_with (first | (go_at_call 22; refine (orderValid_no _ _ (by omega)).mono ?_; rintro e w' ⟨rfl, rfl⟩))
    go_ret
    exact ⟨ret_bool HL.out, rfl⟩
set_option maxRecDepth 100000 in
theorem l3Path_any (z : ByteArray) (w : World) (hs : z.size ≤ 9223372036854775807) :
    Calls Try.prog 25 #[.string z] w fun e w' => e = .returned (.bool (pathB z)) ∧ w = w' := by
  have hb := fun w => l1Bits_any z w hs
  cases hv : bitsB z with
  | true =>
    rw [hv] at hb
    have HR := Lib.hid (path_okbits hv)
    clear hv
    go_enter Try.func25, Try.ntmps25
    go_wp2_with (first | (go_at_call 31; refine (hb _).mono ?_; rintro e w' ⟨rfl, rfl⟩))
    go_ret
    exact ⟨ret_bool HR.out, rfl⟩
  | false =>
    rw [hv] at hb
    have HR := Lib.hid (path_nobits hv)
    clear hv
    go_enter Try.func25, Try.ntmps25
    go_wp2_with (first | (go_at_call 31; refine (hb _).mono ?_; rintro e w' ⟨rfl, rfl⟩))
    go_ret
    exact ⟨ret_bool HR.out, rfl⟩
/-- The shorter one is the beginning of the other one. -/
def begB (p q : ByteArray) : Bool := if p.size ≤ q.size then p.toList == (q.extract 0 p.size).toList else (p.extract 0 q.size).toList == q.toList
def confB (p q : ByteArray) : Bool := pathB p && (pathB q && begB p q)
set_option maxRecDepth 100000 in
theorem iConf_any (p q : ByteArray) (w : World) (hp : p.size ≤ 9223372036854775807) (hq : q.size ≤ 9223372036854775807) :
    Calls Try.prog 10 #[.string p, .string q] w fun e w' => e = .returned (.bool (confB p q)) ∧ ∃ m, w' = w.drewN m := by
  have hP := fun w => pathValid_any p w hp
  have hQ := fun w => pathValid_any q w hq
  cases h1 : pathB p with
  | false =>
    rw [show confB p q = false by unfold confB; rw [h1]; rfl]
    rw [h1] at hP
    go_enter Try.func10, Try.ntmps10
    go_wp2_with (first | (go_at_call 21; refine (hP _).mono ?_; rintro e w' ⟨rfl, rfl⟩))
    go_ret
    exact ⟨rfl, 0, rfl⟩
  | true =>
    cases h2 : pathB q with
    | false =>
      rw [show confB p q = false by unfold confB; rw [h2]; simp]
      rw [h1] at hP
      rw [h2] at hQ
      go_enter Try.func10, Try.ntmps10
      go_wp2_with fail
      refine (hP _).mono ?_
      rintro e w' ⟨rfl, rfl⟩
      go_wp2_with fail
      refine (hQ _).mono ?_
      rintro e w' ⟨rfl, rfl⟩
      go_wp2
      go_ret
      exact ⟨rfl, 0, rfl⟩
    | true =>
      rw [show confB p q = begB p q by unfold confB; rw [h1, h2]; rfl]
      rw [h1] at hP
      rw [h2] at hQ
      have p6 := ((pathB_iff p).1 h1).2
      have q6 := ((pathB_iff q).1 h2).2
      unfold begB
      clear h1 h2
      by_cases hl : p.size ≤ q.size
      · rw [if_pos hl]
        have hl' : (p.size : Int) ≤ (q.size : Int) := by omega
        go_enter Try.func10, Try.ntmps10
        go_wp2_with fail
        refine (hP _).mono ?_
        rintro e w' ⟨rfl, rfl⟩
        go_wp2_with fail
        refine (hQ _).mono ?_
        rintro e w' ⟨rfl, rfl⟩
        go_wp2_with fail
        go_quiet (fail)
        go_wp2
        go_ret
        exact ⟨rfl, nq, rfl⟩
      · rw [if_neg hl]
        have hl' : ¬ (p.size : Int) ≤ (q.size : Int) := by omega
        go_enter Try.func10, Try.ntmps10
        go_wp2_with fail
        refine (hP _).mono ?_
        rintro e w' ⟨rfl, rfl⟩
        go_wp2_with fail
        refine (hQ _).mono ?_
        rintro e w' ⟨rfl, rfl⟩
        go_wp2_with fail
        go_quiet (fail)
        go_wp2
        go_ret
        exact ⟨rfl, nq, rfl⟩
set_option maxRecDepth 100000 in
theorem l3Conflict_any (p q : ByteArray) (w : World) (hp : p.size ≤ 9223372036854775807) (hq : q.size ≤ 9223372036854775807) :
    Calls Try.prog 29 #[.string p, .string q] w fun e w' => e = .returned (.bool (begB p q)) ∧ ∃ m, w' = w.drewN m := by
  unfold begB
  by_cases hl : p.size ≤ q.size
  · rw [if_pos hl]
    have hl' : (p.size : Int) ≤ (q.size : Int) := by omega
    go_enter Try.func29, Try.ntmps29
    go_wp2_with fail
    go_quiet (fail)
    go_wp2
    go_ret
    exact ⟨rfl, nq, rfl⟩
  · rw [if_neg hl]
    have hl' : ¬ (p.size : Int) ≤ (q.size : Int) := by omega
    go_enter Try.func29, Try.ntmps29
    go_wp2_with fail
    go_quiet (fail)
    go_wp2
    go_ret
    exact ⟨rfl, nq, rfl⟩
theorem iConfB (p q : ByteArray) (w : World) (hp : p.size ≤ 9223372036854775807) (hq : q.size ≤ 9223372036854775807) :
    Calls Try.prog 10 #[.string p, .string q] w fun e w' => e = .returned (.bool (confB p q)) ∧ Below w.heap.size w w' :=
  (iConf_any p q w hp hq).mono fun e w' ⟨h, m, hm⟩ => ⟨h, by rw [hm]; exact below_drewN (Below.refl _ w) m⟩
/-- The correlations without repetition from 1 to n - 1 are small. -/
def smallB (x : Int) : Bool := decide (-1 ≤ x) && decide (x ≤ 1)
def barkTo (z : ByteArray) (n : Nat) : Bool := (List.range n).all fun k => k == 0 || smallB (aperN z k)
def barkB (z : ByteArray) : Bool := seqB z && barkTo z z.size
theorem barkTo_one (z : ByteArray) : barkTo z 1 = true := rfl
theorem barkTo_succ (z : ByteArray) (k : Nat) (h : 0 < k) : barkTo z (k + 1) = (barkTo z k && smallB (aperN z k)) := by
  unfold barkTo
  rw [List.range_succ, List.all_append]
  have : (k == 0) = false := by simp; omega
  simp [this]
theorem barkTo_bad (z : ByteArray) (k n : Nat) (h0 : 0 < k) (hk : k < n) (h : smallB (aperN z k) = false) : barkTo z n = false := by
  unfold barkTo
  rw [List.all_eq_false]
  refine ⟨k, List.mem_range.2 hk, ?_⟩
  have : (k == 0) = false := by simp; omega
  simp [this, h]
theorem small_iff (x : Int) : smallB x = true ↔ -1 ≤ x ∧ x ≤ 1 := by unfold smallB; simp only [Bool.and_eq_true, decide_eq_true_eq]
end Go.Proofs.Ytgkiilpcobgboaa
