/- Contracts of TreeConflict and BarkerValid, of both sides. -/
import Derived.Test.YtgfehabpoebaoaaSeqAper
import Derived.Test.YtgfehabpoebaoaaGold
namespace Go.Proofs.Ytgfehabpoebaoaa
open Go.RowKit
set_option linter.unusedVariables false
/-- A path: at most 6 bits. -/
def pathB (z : ByteArray) : Bool := okB z z.size && decide (z.size ≤ 6)
theorem pathB_iff (z : ByteArray) : pathB z = true ↔ okB z z.size = true ∧ z.size ≤ 6 := by unfold pathB; simp only [Bool.and_eq_true, decide_eq_true_eq]
theorem path_bits {z : ByteArray} (h : z.size ≤ 6) : bitsB z = pathB z := by unfold bitsB pathB; rw [decide_eq_true (by omega : z.size ≤ 600), decide_eq_true h]
theorem path_long {z : ByteArray} (h : ¬ z.size ≤ 6) : false = pathB z := by unfold pathB; rw [decide_eq_false h, Bool.and_false]
theorem path_nobits {z : ByteArray} (h : bitsB z = false) : false = pathB z := by
  by_cases h6 : z.size ≤ 6
  · rw [← path_bits h6, h]
  · exact path_long h6
theorem path_okbits {z : ByteArray} (h : bitsB z = true) : decide ((z.size : Int) ≤ 6) = pathB z := by
  unfold bitsB at h
  simp only [Bool.and_eq_true] at h
  unfold pathB
  rw [h.1, Bool.true_and, decide_eq_decide]; omega
set_option maxRecDepth 100000 in
theorem orderValid_any (S : Int) (w : World) :
    Calls Try.prog 61 #[.int .i64 S] w fun e w' => e = .returned (.bool (decide (0 ≤ S) && decide (S ≤ 6))) ∧ w = w' := by
  by_cases h1 : 0 ≤ S
  · go_enter Try.func61, Try.ntmps61
    go_wp2
    go_ret
    exact ⟨ret_bool (by simp [h1]), rfl⟩
  · go_enter Try.func61, Try.ntmps61
    go_wp2
    go_ret
    exact ⟨ret_bool (by rw [decide_eq_false (by omega : ¬ 0 ≤ S)]; rfl), rfl⟩
theorem orderValid_yes (S : Int) (w : World) (h1 : 0 ≤ S) (h2 : S ≤ 6) :
    Calls Try.prog 61 #[.int .i64 S] w fun e w' => e = .returned (.bool true) ∧ w = w' := by
  rw [← in_yes h1 h2]; exact orderValid_any S w
theorem orderValid_no (S : Int) (w : World) (h : ¬ (0 ≤ S ∧ S ≤ 6)) :
    Calls Try.prog 61 #[.int .i64 S] w fun e w' => e = .returned (.bool false) ∧ w = w' := by
  rw [← in_no h]; exact orderValid_any S w
set_option maxRecDepth 100000 in
theorem pathValid_any (z : ByteArray) (w : World) (hs : z.size ≤ 9223372036854775807) :
    Calls Try.prog 49 #[.string z] w fun e w' => e = .returned (.bool (pathB z)) ∧ w = w' := by
  by_cases h6 : z.size ≤ 6
  · have hb := fun w => bitsValid_any z w hs
    rw [path_bits h6] at hb
    go_enter Try.func49, Try.ntmps49
    go_wp2_with (first | (go_at_call 61; refine (orderValid_yes _ _ (by omega) (by omega)).mono ?_; rintro e w' ⟨rfl, rfl⟩) | (go_at_call 41; refine (hb _).mono ?_; rintro e w' ⟨rfl, rfl⟩))
    go_ret
    exact ⟨rfl, rfl⟩
  · have HL := Lib.hid (path_long h6)
    go_enter Try.func49, Try.ntmps49
    go_wp2_with (first | (go_at_call 61; refine (orderValid_no _ _ (by omega)).mono ?_; rintro e w' ⟨rfl, rfl⟩))
    go_ret
    exact ⟨ret_bool HL.out, rfl⟩
set_option maxRecDepth 100000 in
theorem l3Path_any (z : ByteArray) (w : World) (hs : z.size ≤ 9223372036854775807) :
    Calls Try.prog 52 #[.string z] w fun e w' => e = .returned (.bool (pathB z)) ∧ w = w' := by
  have hb := fun w => l1Bits_any z w hs
  cases hv : bitsB z with
  | true =>
    rw [hv] at hb
    have HR := Lib.hid (path_okbits hv)
    clear hv
    go_enter Try.func52, Try.ntmps52
    go_wp2_with (first | (go_at_call 66; refine (hb _).mono ?_; rintro e w' ⟨rfl, rfl⟩))
    go_ret
    exact ⟨ret_bool HR.out, rfl⟩
  | false =>
    rw [hv] at hb
    have HR := Lib.hid (path_nobits hv)
    clear hv
    go_enter Try.func52, Try.ntmps52
    go_wp2_with (first | (go_at_call 66; refine (hb _).mono ?_; rintro e w' ⟨rfl, rfl⟩))
    go_ret
    exact ⟨ret_bool HR.out, rfl⟩
/-- The shorter one is the beginning of the other one. -/
def begB (p q : ByteArray) : Bool := if p.size ≤ q.size then p.toList == (q.extract 0 p.size).toList else (p.extract 0 q.size).toList == q.toList
def confB (p q : ByteArray) : Bool := pathB p && (pathB q && begB p q)
set_option maxRecDepth 100000 in
theorem iConf_any (p q : ByteArray) (w : World) (hp : p.size ≤ 9223372036854775807) (hq : q.size ≤ 9223372036854775807) :
    Calls Try.prog 24 #[.string p, .string q] w fun e w' => e = .returned (.bool (confB p q)) ∧ ∃ m, w' = w.drewN m := by
  have hP := fun w => pathValid_any p w hp
  have hQ := fun w => pathValid_any q w hq
  cases h1 : pathB p with
  | false =>
    rw [show confB p q = false by unfold confB; rw [h1]; rfl]
    rw [h1] at hP
    go_enter Try.func24, Try.ntmps24
    go_wp2_with (first | (go_at_call 49; refine (hP _).mono ?_; rintro e w' ⟨rfl, rfl⟩))
    go_ret
    exact ⟨rfl, 0, rfl⟩
  | true =>
    cases h2 : pathB q with
    | false =>
      rw [show confB p q = false by unfold confB; rw [h2]; simp]
      rw [h1] at hP
      rw [h2] at hQ
      go_enter Try.func24, Try.ntmps24
      go_wp2_with fail
      refine (hP _).mono ?_
      rintro e w' ⟨rfl, rfl⟩
      go_wp2_with fail
      refine (hQ _).mono ?_
      rintro e w' ⟨rfl, rfl⟩
      go_wp2
      go_ret
      exact ⟨rfl, 0, rfl⟩
    | true =>
      rw [show confB p q = begB p q by unfold confB; rw [h1, h2]; rfl]
      rw [h1] at hP
      rw [h2] at hQ
      have p6 := ((pathB_iff p).1 h1).2
      have q6 := ((pathB_iff q).1 h2).2
      unfold begB
      clear h1 h2
      by_cases hl : p.size ≤ q.size
      · rw [if_pos hl]
        have hl' : (p.size : Int) ≤ (q.size : Int) := by omega
        go_enter Try.func24, Try.ntmps24
        go_wp2_with fail
        refine (hP _).mono ?_
        rintro e w' ⟨rfl, rfl⟩
        go_wp2_with fail
        refine (hQ _).mono ?_
        rintro e w' ⟨rfl, rfl⟩
        go_wp2_with fail
        go_quiet (fail)
        go_wp2
        go_ret
        exact ⟨rfl, nq, rfl⟩
      · rw [if_neg hl]
        have hl' : ¬ (p.size : Int) ≤ (q.size : Int) := by omega
        go_enter Try.func24, Try.ntmps24
        go_wp2_with fail
        refine (hP _).mono ?_
        rintro e w' ⟨rfl, rfl⟩
        go_wp2_with fail
        refine (hQ _).mono ?_
        rintro e w' ⟨rfl, rfl⟩
        go_wp2_with fail
        go_quiet (fail)
        go_wp2
        go_ret
        exact ⟨rfl, nq, rfl⟩
set_option maxRecDepth 100000 in
theorem l3Conflict_any (p q : ByteArray) (w : World) (hp : p.size ≤ 9223372036854775807) (hq : q.size ≤ 9223372036854775807) :
    Calls Try.prog 56 #[.string p, .string q] w fun e w' => e = .returned (.bool (begB p q)) ∧ ∃ m, w' = w.drewN m := by
  unfold begB
  by_cases hl : p.size ≤ q.size
  · rw [if_pos hl]
    have hl' : (p.size : Int) ≤ (q.size : Int) := by omega
    go_enter Try.func56, Try.ntmps56
    go_wp2_with fail
    go_quiet (fail)
    go_wp2
    go_ret
    exact ⟨rfl, nq, rfl⟩
  · rw [if_neg hl]
    have hl' : ¬ (p.size : Int) ≤ (q.size : Int) := by omega
    go_enter Try.func56, Try.ntmps56
    go_wp2_with fail
    go_quiet (fail)
    go_wp2
    go_ret
    exact ⟨rfl, nq, rfl⟩
set_option maxRecDepth 100000 in
theorem sConf_any (p q : ByteArray) (w : World) (hp : p.size ≤ 9223372036854775807) (hq : q.size ≤ 9223372036854775807) :
    Calls Try.prog 25 #[.string p, .string q] w fun e w' => e = .returned (.bool (confB p q)) ∧ ∃ m, w' = w.drewN m := by
  have hP := fun w => l3Path_any p w hp
  have hQ := fun w => l3Path_any q w hq
  have hC := fun w => l3Conflict_any p q w hp hq
  cases h1 : pathB p with
  | false =>
    rw [show confB p q = false by unfold confB; rw [h1]; rfl]
    rw [h1] at hP
    go_enter Try.func25, Try.ntmps25
    go_wp2_with fail
    refine (hP _).mono ?_
    rintro e w' ⟨rfl, rfl⟩
    go_wp2
    go_ret
    exact ⟨rfl, 0, rfl⟩
  | true =>
    cases h2 : pathB q with
    | false =>
      rw [show confB p q = false by unfold confB; rw [h2]; simp]
      rw [h1] at hP
      rw [h2] at hQ
      go_enter Try.func25, Try.ntmps25
      go_wp2_with fail
      refine (hP _).mono ?_
      rintro e w' ⟨rfl, rfl⟩
      go_wp2_with fail
      refine (hQ _).mono ?_
      rintro e w' ⟨rfl, rfl⟩
      go_wp2
      go_ret
      exact ⟨rfl, 0, rfl⟩
    | true =>
      rw [show confB p q = begB p q by unfold confB; rw [h1, h2]; rfl]
      rw [h1] at hP
      rw [h2] at hQ
      clear h1 h2
      go_enter Try.func25, Try.ntmps25
      go_wp2_with fail
      refine (hP _).mono ?_
      rintro e w' ⟨rfl, rfl⟩
      go_wp2_with fail
      refine (hQ _).mono ?_
      rintro e w' ⟨rfl, rfl⟩
      go_wp2_with fail
      refine (hC _).mono ?_
      rintro e w' ⟨rfl, m, rfl⟩
      go_wp2
      go_ret
      exact ⟨rfl, m, rfl⟩
theorem iConfB (p q : ByteArray) (w : World) (hp : p.size ≤ 9223372036854775807) (hq : q.size ≤ 9223372036854775807) :
    Calls Try.prog 24 #[.string p, .string q] w fun e w' => e = .returned (.bool (confB p q)) ∧ Below w.heap.size w w' :=
  (iConf_any p q w hp hq).mono fun e w' ⟨h, m, hm⟩ => ⟨h, by rw [hm]; exact below_drewN (Below.refl _ w) m⟩
theorem sConfB (p q : ByteArray) (w : World) (hp : p.size ≤ 9223372036854775807) (hq : q.size ≤ 9223372036854775807) :
    Calls Try.prog 25 #[.string p, .string q] w fun e w' => e = .returned (.bool (confB p q)) ∧ Below w.heap.size w w' :=
  (sConf_any p q w hp hq).mono fun e w' ⟨h, m, hm⟩ => ⟨h, by rw [hm]; exact below_drewN (Below.refl _ w) m⟩
/-- The correlations without repetition from 1 to n - 1 are small. -/
def smallB (x : Int) : Bool := decide (-1 ≤ x) && decide (x ≤ 1)
def barkTo (z : ByteArray) (n : Nat) : Bool := (List.range n).all fun k => k == 0 || smallB (aperN z k)
def barkB (z : ByteArray) : Bool := seqB z && barkTo z z.size
theorem barkTo_one (z : ByteArray) : barkTo z 1 = true := rfl
theorem barkTo_succ (z : ByteArray) (k : Nat) (h : 0 < k) : barkTo z (k + 1) = (barkTo z k && smallB (aperN z k)) := by
  unfold barkTo
  rw [List.range_succ, List.all_append]
  have : (k == 0) = false := by simp; omega
  simp [this]
theorem barkTo_bad (z : ByteArray) (k n : Nat) (h0 : 0 < k) (hk : k < n) (h : smallB (aperN z k) = false) : barkTo z n = false := by
  unfold barkTo
  rw [List.all_eq_false]
  refine ⟨k, List.mem_range.2 hk, ?_⟩
  have : (k == 0) = false := by simp; omega
  simp [this, h]
theorem small_iff (x : Int) : smallB x = true ↔ -1 ≤ x ∧ x ≤ 1 := by unfold smallB; simp only [Bool.and_eq_true, decide_eq_true_eq]
set_option maxRecDepth 100000 in
theorem iBark_any (z : ByteArray) (w : World) (hs : z.size ≤ 9223372036854775807) :
    Calls Try.prog 10 #[.string z] w fun e w' => e = .returned (.bool (barkB z)) ∧ Below w.heap.size w w' := by
  cases h : seqB z with
  | false =>
    rw [show barkB z = false by unfold barkB; rw [h]; rfl]
    go_enter Try.func10, Try.ntmps10
    go_wp2_with fail
    refine (iSequenceValid_no z _ hs h).mono ?_
    rintro e w' ⟨rfl, rfl⟩
    go_wp2
    go_ret
    exact ⟨rfl, Below.refl _ _⟩
  | true =>
    rw [show barkB z = barkTo z z.size by unfold barkB; rw [h]; rfl]
    have h12 := size_le h
    have HA := Lib.hid (fun (k : Nat) w (hk : k < z.size) => iAper_yes z k w h hk)
    have HV := Lib.hid (fun w => iSequenceValid_yes z w h)
    clear h
    go_enter Try.func10, Try.ntmps10
    go_wp2_with fail
    refine (HV.out _).mono ?_
    rintro e w' ⟨rfl, rfl⟩
    go_wp2
    go_loopw [3] (fun i wr => ∃ k : Nat, 1 ≤ k ∧ k ≤ z.size ∧ i = .int .i64 k ∧ Hid (barkTo z k = true) ∧ Below w.heap.size w wr) (fun i _ => z.size - (intOf i).toNat)
    case atStart => exact ⟨1, by omega, by omega, rfl, Lib.hid rfl, Below.refl _ _⟩
    case round =>
      obtain ⟨k, h1, hk, rfl, rI, rb⟩ := hrel
      by_cases hlt : k < z.size
      · have hA := fun w => HA.out k w hlt
        obtain ⟨X, hX⟩ : ∃ X, aperN z k = X := ⟨_, rfl⟩
        rw [hX] at hA
        have HX := Lib.hid hX
        have HAA := Lib.hid hA
        clear hA hX
        go_wp2_with fail
        refine (HAA.out _).mono ?_
        rintro e w1 ⟨rfl, hb⟩
        have b1 := below_then rb (Nat.le_refl _) hb
        clear hb rb
        by_cases hlo : X < -1
        · have HF := Lib.hid (barkTo_bad z k z.size h1 hlt (by rw [HX.out]; unfold smallB; rw [decide_eq_false (by omega), Bool.false_and])).symm
          clear rI
          go_wp2
          go_ret
          exact ⟨ret_bool HF.out, b1⟩
        · by_cases hhi : 1 < X
          · have HF := Lib.hid (barkTo_bad z k z.size h1 hlt (by rw [HX.out]; unfold smallB; rw [decide_eq_false (by omega : ¬ X ≤ 1), Bool.and_false])).symm
            clear rI
            go_wp2
            go_ret
            exact ⟨ret_bool HF.out, b1⟩
          · have HF : Hid (barkTo z (k + 1) = true) := Lib.hid (by rw [barkTo_succ z k h1, rI.out, HX.out]; exact (small_iff X).2 ⟨by omega, by omega⟩)
            clear rI
            go_wp2
            go_roundw
            case rel => exact ⟨k + 1, by omega, by omega, by go_num, HF, b1⟩
            case measure => simp [intOf]; omega
      · obtain rfl : k = z.size := by omega
        go_wp2
        go_ret
        exact ⟨ret_bool rI.out.symm, rb⟩
set_option maxRecDepth 100000 in
theorem sBark_any (z : ByteArray) (w : World) (hs : z.size ≤ 9223372036854775807) :
    Calls Try.prog 11 #[.string z] w fun e w' => e = .returned (.bool (barkB z)) ∧ Below w.heap.size w w' := by
  cases h : seqB z with
  | false =>
    rw [show barkB z = false by unfold barkB; rw [h]; rfl]
    have HV := Lib.hid (fun w => sSequenceValid_no z w hs h)
    clear h
    go_enter Try.func11, Try.ntmps11
    go_wp2
    go_loop [3] (fun i => i = .int .i64 1) (fun i => (intOf i).toNat)
    case atStart => exact rfl
    case round =>
      obtain rfl := hrel
      by_cases hl : 1 < z.size
      · go_wp2_with fail
        refine (HV.out _).mono ?_
        rintro e w' ⟨rfl, rfl⟩
        go_wp2_with fail
        refine (HV.out _).mono ?_
        rintro e w' ⟨rfl, rfl⟩
        go_wp2
        go_ret
        exact ⟨rfl, Below.refl _ _⟩
      · go_wp2_with fail
        refine (HV.out _).mono ?_
        rintro e w' ⟨rfl, rfl⟩
        go_wp2
        go_ret
        exact ⟨rfl, Below.refl _ _⟩
  | true =>
    rw [show barkB z = barkTo z z.size by unfold barkB; rw [h]; rfl]
    have h12 := size_le h
    have HA := Lib.hid (fun (k : Nat) w (hk : k < z.size) => sAper_yes z k w h hk)
    have HV := Lib.hid (fun w => sSequenceValid_yes z w h)
    clear h
    go_enter Try.func11, Try.ntmps11
    go_wp2
    go_loopw [3] (fun i wr => ∃ k : Nat, 1 ≤ k ∧ k ≤ z.size ∧ i = .int .i64 k ∧ Hid (barkTo z k = true) ∧ Below w.heap.size w wr) (fun i _ => z.size - (intOf i).toNat)
    case atStart => exact ⟨1, by omega, by omega, rfl, Lib.hid rfl, Below.refl _ _⟩
    case round =>
      obtain ⟨k, h1, hk, rfl, rI, rb⟩ := hrel
      by_cases hlt : k < z.size
      · have hA := fun w => HA.out k w hlt
        obtain ⟨X, hX⟩ : ∃ X, aperN z k = X := ⟨_, rfl⟩
        rw [hX] at hA
        have HX := Lib.hid hX
        have HAA := Lib.hid hA
        clear hA hX
        go_wp2_with fail
        refine (HV.out _).mono ?_
        rintro e w' ⟨rfl, rfl⟩
        go_wp2_with fail
        refine (HAA.out _).mono ?_
        rintro e w1 ⟨rfl, hb⟩
        have b1 := below_then rb (Nat.le_refl _) hb
        clear hb rb
        by_cases hin : -1 ≤ X ∧ X ≤ 1
        · have HF : Hid (barkTo z (k + 1) = true) := Lib.hid (by rw [barkTo_succ z k h1, rI.out, HX.out]; exact (small_iff X).2 hin)
          clear rI
          go_wp2_with fail
          refine (l1In_yes X (-1) 1 _ hin.1 hin.2).mono ?_
          rintro e w' ⟨rfl, rfl⟩
          go_wp2
          go_roundw
          case rel => exact ⟨k + 1, by omega, by omega, by go_num, HF, b1⟩
          case measure => simp [intOf]; omega
        · have HF := Lib.hid (barkTo_bad z k z.size h1 hlt (by
            rw [HX.out]
            cases hb : smallB X with
            | false => rfl
            | true => exact absurd ((small_iff X).1 hb) hin)).symm
          clear rI
          go_wp2_with fail
          refine (l1In_no X (-1) 1 _ hin).mono ?_
          rintro e w' ⟨rfl, rfl⟩
          go_wp2
          go_ret
          exact ⟨ret_bool HF.out, b1⟩
      · obtain rfl : k = z.size := by omega
        go_wp2_with fail
        refine (HV.out _).mono ?_
        rintro e w' ⟨rfl, rfl⟩
        go_wp2
        go_ret
        exact ⟨ret_bool rI.out.symm, rb⟩
end Go.Proofs.Ytgfehabpoebaoaa
