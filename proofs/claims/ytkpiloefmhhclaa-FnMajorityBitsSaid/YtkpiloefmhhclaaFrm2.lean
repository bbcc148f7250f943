/- Repeated bits, bits in rows and columns: the program's closures and their functions, of both sides. -/
import Derived.Test.YtkpiloefmhhclaaFrm0
import Derived.Shelf.Abstract
import Derived.BigQuiet
namespace Go.Proofs.Ytkpiloefmhhclaa
open Go.RowKit Go.Shelf
set_option linter.unusedVariables false
set_option maxRecDepth 100000
theorem bits_of2 {z : ByteArray} (h : bitsB z = true) : okB z z.size = true ∧ z.size ≤ 600 := by unfold bitsB at h; simp only [Bool.and_eq_true, decide_eq_true_eq] at h; exact h
theorem ret_u8 {a b : Nat} (h : a = b) : Ending.returned (.int .u8 (a : Nat)) = .returned (.int .u8 (b : Nat)) := by rw [h]
theorem ret_sA {A : ByteArray × Bool} {x : ByteArray} {c : Bool} (h : A = (x, c)) : Ending.returned (.tuple #[.string x, .bool c]) = .returned (.tuple #[.string A.1, .bool A.2]) := by rw [h]
theorem div_value (i n : Nat) (hi : i ≤ 1048576) : IntKind.i64.wrap ((i : Int) / (n : Int)) = ((i / n : Nat) : Int) := by
  have h := Nat.div_le_self i n
  rw [← Int.natCast_ediv]
  obtain ⟨Q, hQ⟩ : ∃ Q, i / n = Q := ⟨_, rfl⟩
  rw [hQ] at h ⊢
  exact IntWalk.i64_in _ (by omega)
theorem mod_value (i n : Nat) : (i : Int).tmod (n : Int) = ((i % n : Nat) : Int) := by
  rw [Int.tmod_eq_emod_of_nonneg (by omega)]; exact (Int.natCast_emod i n).symm
/-- A box holds the same behind what lays blocks of its own. -/
theorem box_kept {w W : World} {b : Nat} {v : Value} (h : w.cell? ⟨b, 0, none⟩ = some v) (hb : b < w.heap.size) (k : Below w.heap.size w W) : W.cell? ⟨b, 0, none⟩ = some v := (k.cell (p := ⟨b, 0, none⟩) hb).trans h
theorem box_new (w : World) (v : Value) (t : TypeId) : (w.alloc (.cells #[v] t)).cell? ⟨w.heap.size, 0, none⟩ = some v := by simp
theorem box_old {w : World} {b : Nat} {v : Value} (h : w.cell? ⟨b, 0, none⟩ = some v) (hb : b < w.heap.size) (o : Obj) : (w.alloc o).cell? ⟨b, 0, none⟩ = some v := box_kept h hb ((Below.refl _ _).alloc (Nat.le_refl _) _)
/-- Repetitions. -/
def repsB (n : Int) : Bool := decide (1 ≤ n) && (decide (n ≤ 9) && decide (n.tmod 2 = 1))
theorem repsB_iff (n : Int) : repsB n = true ↔ 1 ≤ n ∧ n ≤ 9 ∧ n.tmod 2 = 1 := by unfold repsB; simp only [Bool.and_eq_true, decide_eq_true_eq]
theorem reps_nat {n : Int} (h : repsB n = true) : ∃ m : Nat, n = m ∧ 1 ≤ m ∧ m ≤ 9 ∧ m % 2 = 1 := by
  obtain ⟨h1, h2, h3⟩ := (repsB_iff n).1 h
  refine ⟨n.toNat, by omega, by omega, by omega, ?_⟩
  rw [Int.tmod_eq_emod_of_nonneg (by omega)] at h3
  omega
def repS (z : ByteArray) (n : Nat) : ByteArray := strF (z.size * n) (fun i => zb z (i / n))
def repAns (z : ByteArray) (n : Int) : ByteArray × Bool := if bitsB z = true ∧ repsB n = true ∧ z.size * n.toNat ≤ 600 then (repS z n.toNat, true) else noS
/-- Bits in rows, read by columns. -/
def weaveS (z : ByteArray) (R C : Nat) : ByteArray := strF z.size (fun i => zb z (i % R * C + i / R))
theorem weave_lt {R C i : Nat} (h : i < R * C) : i % R * C + i / R < R * C ∧ i / R < C ∧ i % R < R := by
  have hR : 0 < R := by
    rcases Nat.eq_zero_or_pos R with e | e
    · subst e; simp at h
    · exact e
  have h1 : i / R < C := Nat.div_lt_of_lt_mul h
  have h2 := Nat.mod_lt i hR
  have h3 : (i % R + 1) * C ≤ R * C := Nat.mul_le_mul_right _ h2
  rw [Nat.add_mul, Nat.one_mul] at h3
  omega
theorem weave_back {R C i : Nat} (h : i < R * C) : (i % R * C + i / R) % C * R + (i % R * C + i / R) / C = i := by
  obtain ⟨_, h1, _⟩ := weave_lt h
  have hC : 0 < C := Nat.lt_of_le_of_lt (Nat.zero_le _) h1
  have e1 : (i % R * C + i / R) % C = i / R := by rw [Nat.mul_comm, Nat.mul_add_mod, Nat.mod_eq_of_lt h1]
  have e2 : (i % R * C + i / R) / C = i % R := by rw [Nat.mul_comm, Nat.mul_add_div hC, Nat.div_eq_of_lt h1, Nat.add_zero]
  rw [e1, e2, Nat.mul_comm]
  exact Nat.div_add_mod i R
theorem iReps_any (n : Int) (w : World) : Calls Try.prog 45 #[.int .i64 n] w fun e w' => e = .returned (.bool (repsB n)) ∧ w = w' := by
  by_cases h1 : 1 ≤ n
  · by_cases h2 : n ≤ 9
    · have HX : Hid ((n.tmod 2 == 1) = repsB n) := Lib.hid (by unfold repsB; rw [decide_eq_true h1, decide_eq_true h2, Bool.true_and, Bool.true_and, Bool.eq_iff_iff]; simp)
      obtain ⟨T, hT⟩ : ∃ T, n.tmod 2 = T := ⟨_, rfl⟩
      rw [hT] at HX
      go_enter Try.func45, Try.ntmps45
      go_wp2
      go_ret
      exact ⟨ret_bool HX.out, rfl⟩
    · have HX : Hid (false = repsB n) := Lib.hid (by unfold repsB; rw [decide_eq_false h2]; simp)
      go_enter Try.func45, Try.ntmps45
      go_wp2
      go_ret
      exact ⟨ret_bool HX.out, rfl⟩
  · have HX : Hid (false = repsB n) := Lib.hid (by unfold repsB; rw [decide_eq_false h1]; simp)
    go_enter Try.func45, Try.ntmps45
    go_wp2
    go_ret
    exact ⟨ret_bool HX.out, rfl⟩
theorem sReps_any (n : Int) (w : World) : Calls Try.prog 47 #[.int .i64 n] w fun e w' => e = .returned (.bool (repsB n)) ∧ w = w' := by
  by_cases h1 : 1 ≤ n ∧ n ≤ 9
  · have HX : Hid ((n.tmod 2 == 1) = repsB n) := Lib.hid (by unfold repsB; rw [decide_eq_true h1.1, decide_eq_true h1.2, Bool.true_and, Bool.true_and, Bool.eq_iff_iff]; simp)
    have HI := Lib.hid (fun w => l1In_yes n 1 9 w h1.1 h1.2)
    have h2 := h1.1
    obtain ⟨T, hT⟩ : ∃ T, n.tmod 2 = T := ⟨_, rfl⟩
    rw [hT] at HX
    clear h1
    go_enter Try.func47, Try.ntmps47
    go_wp2_with fail
    refine (HI.out _).mono ?_
    rintro e w' ⟨rfl, rfl⟩
    go_wp2
    go_ret
    exact ⟨ret_bool HX.out, rfl⟩
  · have HX : Hid (false = repsB n) := Lib.hid (by
      cases h : repsB n with
      | false => rfl
      | true => exact absurd ⟨((repsB_iff n).1 h).1, ((repsB_iff n).1 h).2.1⟩ h1)
    have HI := Lib.hid (fun w => l1In_no n 1 9 w h1)
    clear h1
    go_enter Try.func47, Try.ntmps47
    go_wp2_with fail
    refine (HI.out _).mono ?_
    rintro e w' ⟨rfl, rfl⟩
    go_wp2
    go_ret
    exact ⟨ret_bool HX.out, rfl⟩
theorem rep1_any (z : ByteArray) (n bx bn i : Nat) (w : World) (h0 : w.cell? ⟨bx, 0, none⟩ = some (.string z)) (h1 : w.cell? ⟨bn, 0, none⟩ = some (.int .i64 n)) (hn : 1 ≤ n) (hi : i ≤ 1048576) (hq : i / n < z.size) :
    Calls Try.prog 46 #[.int .i64 i, .pointer (some ⟨bx, 0, none⟩), .pointer (some ⟨bn, 0, none⟩)] w fun e w' => e = .returned (.int .u8 (zb z (i / n) : Nat)) ∧ Below w.heap.size w w' := by
  have v1 := div_value i n hi
  obtain ⟨Q, hQ⟩ : ∃ Q, i / n = Q := ⟨_, rfl⟩
  rw [hQ] at v1 hq ⊢
  have p1 : (1 : Int) ≤ (n : Int) := by omega
  have p2 : ¬ (n : Int) = 0 := by omega
  have i0 : (0 : Int) ≤ (Q : Int) := by omega
  have i1 : (Q : Int) < (z.size : Int) := by omega
  have HZ := Lib.hid (zb_at z Q hq)
  clear hQ hn
  go_enter Try.func46, Try.ntmps46
  go_wp2_with fail
  go_quiet (fail)
  go_wp2
  go_ret
  exact ⟨ret_u8 HZ.out, below_drewN (Below.refl _ _) _⟩
theorem iRepeat_yes (z : ByteArray) (n : Nat) (w : World) (hb : bitsB z = true) (h1 : 1 ≤ n) (h9 : n ≤ 9) (ho : n % 2 = 1) (h6 : z.size * n ≤ 600) :
    Calls Try.prog 16 #[.string z, .int .i64 n] w fun e w' => e = .returned (.tuple #[.string (repS z n), .bool true]) ∧ Below w.heap.size w w' := by
  have hz6 := (bits_of2 hb).2
  have hv := fun w => bitsValid_any z w (by omega)
  rw [hb] at hv
  have hr := fun w => iReps_any (n : Int) w
  rw [show repsB (n : Int) = true from (repsB_iff _).2 ⟨by omega, by omega, by have e := mod_value n 2; rw [show ((2 : Nat) : Int) = 2 from rfl] at e; rw [e]; omega⟩] at hr
  obtain ⟨P, hP⟩ : ∃ P, z.size * n = P := ⟨_, rfl⟩
  have v1 : (z.size : Int) * (n : Int) = (P : Int) := by rw [← hP]; exact (Int.natCast_mul _ _).symm
  rw [hP] at h6
  have b0 := ((Below.refl w.heap.size w).alloc (Nat.le_refl _) (.cells #[.string z] 9)).alloc (by simp) (.cells #[.int .i64 n] 3)
  have c0 : ((w.alloc (.cells #[.string z] 9)).alloc (.cells #[.int .i64 n] 3)).cell? ⟨w.heap.size, 0, none⟩ = some (.string z) := by simp
  have c1 : ((w.alloc (.cells #[.string z] 9)).alloc (.cells #[.int .i64 n] 3)).cell? ⟨w.heap.size + 1, 0, none⟩ = some (.int .i64 n) := by simp
  have cs : ((w.alloc (.cells #[.string z] 9)).alloc (.cells #[.int .i64 n] 3)).heap.size = w.heap.size + 2 := by simp
  have hcall : ∀ W, W = (w.alloc (.cells #[.string z] 9)).alloc (.cells #[.int .i64 n] 3) → Calls Try.prog 35 #[.int .i64 P, .func (.func 46) #[] #[.pointer (some ⟨w.heap.size, 0, none⟩), .pointer (some ⟨w.heap.size + 1, 0, none⟩)]] W
      fun e w' => e = .returned (.string (strF P (fun i => zb z (i / n)))) ∧ Below W.heap.size W w' := fun W hW => by
    refine bitsOf_any P (fun i => zb z (i / n)) 46 _ W (by omega) (enters_of Try.func46 (by kernel_rfl) rfl) ?_
    intro V i hV hi
    subst hW
    refine (rep1_any z n w.heap.size (w.heap.size + 1) i V (box_kept c0 (by rw [cs]; omega) hV) (box_kept c1 (by rw [cs]; omega) hV) h1 (by omega) ?_).mono ?_
    · rw [← hP] at hi
      exact (Nat.div_lt_iff_lt_mul h1).2 hi
    · rintro e w' ⟨rfl, h⟩
      exact ⟨rfl, h⟩
  have HA : Hid (strF P (fun i => zb z (i / n)) = repS z n) := Lib.hid (by unfold repS; rw [hP])
  obtain ⟨y, hy⟩ : ∃ y, strF P (fun i => zb z (i / n)) = y := ⟨_, rfl⟩
  rw [hy] at hcall HA
  have HC := Lib.hid hcall
  have p1 : (1 : Int) ≤ (n : Int) := by omega
  have g6 : ¬ ((600 : Int) < (P : Int)) := by omega
  have HB := Lib.hid b0
  have HV := Lib.hid hv
  have HR := Lib.hid hr
  clear hy hcall hP hb ho b0 c0 c1 cs hv hr
  go_enter Try.func16, Try.ntmps16
  go_wp2_with fail
  refine (HV.out _).mono ?_
  rintro e w1 ⟨rfl, rfl⟩
  go_wp2_with fail
  refine (HR.out _).mono ?_
  rintro e w1 ⟨rfl, rfl⟩
  go_wp2_with fail
  refine (HC.out _ rfl).mono ?_
  rintro e w1 ⟨rfl, hb1⟩
  have b1 := below_then HB.out (by simp) hb1
  clear hb1
  go_wp2
  go_ret2
  exact ⟨ret_sb HA.out, b1⟩
theorem iRepeat_any (z : ByteArray) (n : Int) (w : World) (hs : z.size ≤ 1048576) :
    Calls Try.prog 16 #[.string z, .int .i64 n] w fun e w' => e = .returned (.tuple #[.string (repAns z n).1, .bool (repAns z n).2]) ∧ Below w.heap.size w w' := by
  have hv := fun w => bitsValid_any z w (by omega)
  have b0 := ((Below.refl w.heap.size w).alloc (Nat.le_refl _) (.cells #[.string z] 9)).alloc (by simp) (.cells #[.int .i64 n] 3)
  cases hb : bitsB z with
  | false =>
    rw [hb] at hv
    have HX : Hid (repAns z n = noS) := Lib.hid (by unfold repAns; rw [if_neg (by rw [hb]; simp)])
    have HV := Lib.hid hv
    clear hb hv
    go_enter Try.func16, Try.ntmps16
    go_wp2_with fail
    refine (HV.out _).mono ?_
    rintro e w1 ⟨rfl, rfl⟩
    go_wp2
    go_ret2
    exact ⟨ret_sA HX.out, b0⟩
  | true =>
    rw [hb] at hv
    cases hr : repsB n with
    | false =>
      have HX : Hid (repAns z n = noS) := Lib.hid (by unfold repAns; rw [if_neg (by rw [hr]; simp)])
      have hR := fun w => iReps_any n w
      rw [hr] at hR
      have HV := Lib.hid hv
      have HR := Lib.hid hR
      clear hb hv hr hR
      go_enter Try.func16, Try.ntmps16
      go_wp2_with fail
      refine (HV.out _).mono ?_
      rintro e w1 ⟨rfl, rfl⟩
      go_wp2_with fail
      refine (HR.out _).mono ?_
      rintro e w1 ⟨rfl, rfl⟩
      go_wp2
      go_ret2
      exact ⟨ret_sA HX.out, b0⟩
    | true =>
      obtain ⟨m, rfl, m1, m9, mo⟩ := reps_nat hr
      by_cases h6 : z.size * m ≤ 600
      · have HX : Hid (repAns z m = (repS z m, true)) := Lib.hid (by unfold repAns; rw [Int.toNat_natCast, if_pos ⟨hb, hr, h6⟩])
        refine (iRepeat_yes z m w hb m1 m9 mo h6).mono ?_
        rintro e w' ⟨rfl, h⟩
        exact ⟨ret_sA HX.out, h⟩
      · have HX : Hid (repAns z m = noS) := Lib.hid (by unfold repAns; rw [Int.toNat_natCast, if_neg (fun h => h6 h.2.2)])
        have hR := fun w => iReps_any (m : Int) w
        rw [hr] at hR
        have hz6 := (bits_of2 hb).2
        obtain ⟨P, hP⟩ : ∃ P, z.size * m = P := ⟨_, rfl⟩
        have v1 : (z.size : Int) * (m : Int) = (P : Int) := by rw [← hP]; exact (Int.natCast_mul _ _).symm
        have hPb : P ≤ 600 * 9 := by rw [← hP]; exact Nat.mul_le_mul hz6 m9
        have g6 : (600 : Int) < (P : Int) := by omega
        have HV := Lib.hid hv
        have HR := Lib.hid hR
        clear hb hv hr hR h6 hP mo
        go_enter Try.func16, Try.ntmps16
        go_wp2_with fail
        refine (HV.out _).mono ?_
        rintro e w1 ⟨rfl, rfl⟩
        go_wp2_with fail
        refine (HR.out _).mono ?_
        rintro e w1 ⟨rfl, rfl⟩
        go_wp2
        go_ret2
        exact ⟨ret_sA HX.out, b0⟩
theorem rep_next (z : ByteArray) (n k : Nat) (hn : 1 ≤ n) (hk : k < z.size) : strF (k * n) (fun i => zb z (i / n)) ++ many (z.extract k (k + 1)) n = strF ((k + 1) * n) (fun i => zb z (i / n)) := by
  have hx := size_extract z k (k + 1) (by omega)
  have e1 : (k + 1) * n = k * n + n := by rw [Nat.add_mul, Nat.one_mul]
  apply strF_of
  · rw [ByteArray.size_append, strF_size, many_size, hx, e1]; congr 1; rw [show k + 1 - k = 1 by omega, Nat.one_mul]
  · intro i hi
    rw [e1] at hi
    by_cases h : i < k * n
    · rw [zb_append_left _ _ _ (by rw [strF_size]; exact h), zb_strF (f := fun i => zb z (i / n)) h (zb_lt _ _)]
    · have hm : (z.extract k (k + 1)).size * n = n := by rw [hx, show k + 1 - k = 1 by omega, Nat.one_mul]
      rw [zb_append_right _ _ _ (by rw [strF_size]; omega) (by rw [strF_size, many_size, hm]; omega), strF_size, zb_many _ _ _ (by rw [hm]; omega), hx, show k + 1 - k = 1 by omega, Nat.mod_one, zb_extract _ _ _ _ (by omega) (by omega)]
      have e2 : i / n = k := by
        have h1 : k ≤ i / n := (Nat.le_div_iff_mul_le hn).2 (by omega)
        have h2 : i / n < k + 1 := (Nat.div_lt_iff_lt_mul hn).2 (by rw [e1]; exact hi)
        omega
      rw [e2, Nat.add_zero]
theorem sRepeat_yes (z : ByteArray) (n : Nat) (w : World) (hb : bitsB z = true) (h1 : 1 ≤ n) (h9 : n ≤ 9) (ho : n % 2 = 1) (h6 : z.size * n ≤ 600) :
    Calls Try.prog 17 #[.string z, .int .i64 n] w fun e w' => e = .returned (.tuple #[.string (repS z n), .bool true]) ∧ Below w.heap.size w w' := by
  have hz6 := (bits_of2 hb).2
  have hv := fun w => l1Bits_any z w (by omega)
  rw [hb] at hv
  have hr := fun w => sReps_any (n : Int) w
  rw [show repsB (n : Int) = true from (repsB_iff _).2 ⟨by omega, by omega, by have e := mod_value n 2; rw [show ((2 : Nat) : Int) = 2 from rfl] at e; rw [e]; omega⟩] at hr
  obtain ⟨P, hP⟩ : ∃ P, z.size * n = P := ⟨_, rfl⟩
  have v1 : (z.size : Int) * (n : Int) = (P : Int) := by rw [← hP]; exact (Int.natCast_mul _ _).symm
  rw [hP] at h6
  have HP := Lib.hid hP
  have p1 : (1 : Int) ≤ (n : Int) := by omega
  have g6 : ¬ ((600 : Int) < (P : Int)) := by omega
  have HV := Lib.hid hv
  have HR := Lib.hid hr
  clear hP hb ho hv hr
  go_enter Try.func17, Try.ntmps17
  go_wp2_with fail
  refine (HV.out _).mono ?_
  rintro e w1 ⟨rfl, rfl⟩
  go_wp2_with fail
  refine (HR.out _).mono ?_
  rintro e w1 ⟨rfl, rfl⟩
  go_wp2
  clear v1 g6
  go_loopw [6, 7] (fun s i wr => ∃ k : Nat, k ≤ z.size ∧ i = .int .i64 k ∧ s = .string (strF (k * n) (fun i => zb z (i / n))) ∧ Below w.heap.size w wr) (fun _ i _ => z.size - (intOf i).toNat)
  case atStart => exact ⟨0, by omega, rfl, by rw [Nat.zero_mul]; rfl, Below.refl _ _⟩
  case round =>
    obtain ⟨k, hk, rfl, rfl, rb⟩ := hrel
    by_cases hlt : k < z.size
    · have hs := rep_next z n k h1 hlt
      have hx := size_extract z k (k + 1) (by omega)
      have hM := fun w => l9Many_any (z.extract k (k + 1)) n w (by rw [hx, show k + 1 - k = 1 by omega]; omega) (by omega)
      have q1 := strF_size (k * n) (fun i => zb z (i / n))
      have q2 := many_size (z.extract k (k + 1)) n
      have q3 : (k + 1) * n ≤ z.size * n := Nat.mul_le_mul_right _ hlt
      have q4 : (k + 1) * n = k * n + n := by rw [Nat.add_mul, Nat.one_mul]
      rw [HP.out] at q3
      rw [hx, show k + 1 - k = 1 by omega, Nat.one_mul] at q2
      obtain ⟨A, hA⟩ : ∃ A, strF (k * n) (fun i => zb z (i / n)) = A := ⟨_, rfl⟩
      obtain ⟨B, hB⟩ : ∃ A, strF ((k + 1) * n) (fun i => zb z (i / n)) = A := ⟨_, rfl⟩
      obtain ⟨X, hX⟩ : ∃ A, z.extract k (k + 1) = A := ⟨_, rfl⟩
      rw [hA, hB, hX] at hs
      rw [hA] at q1 ⊢
      rw [hX] at q2 hM
      obtain ⟨Y, hY⟩ : ∃ A, many X n = A := ⟨_, rfl⟩
      rw [hY] at q2 hs hM
      have hq : A.size + Y.size ≤ 9223372036854775807 := by omega
      have HS := Lib.hid hs
      have HBB := Lib.hid hB
      have i0 : (0 : Int) ≤ (k : Int) := by omega
      have i1 : (k : Int) < (z.size : Int) := by omega
      have i2 : (k : Int) + 1 ≤ (z.size : Int) := by omega
      clear hs hA hB hY q1 q2 q3 q4 hx
      go_wp2_with fail
      try rw [hX]
      refine (hM _).mono ?_
      rintro e w1 ⟨rfl, rfl⟩
      clear hM hX
      go_wp2
      go_roundw
      case rel => exact ⟨k + 1, by omega, by go_num, by rw [HBB.out, HS.out], rb⟩
      case measure => simp [intOf]; omega
    · obtain rfl : k = z.size := by omega
      go_wp2
      go_ret2
      exact ⟨rfl, rb⟩
theorem sRepeat_any (z : ByteArray) (n : Int) (w : World) (hs : z.size ≤ 1048576) :
    Calls Try.prog 17 #[.string z, .int .i64 n] w fun e w' => e = .returned (.tuple #[.string (repAns z n).1, .bool (repAns z n).2]) ∧ Below w.heap.size w w' := by
  have hv := fun w => l1Bits_any z w (by omega)
  cases hb : bitsB z with
  | false =>
    rw [hb] at hv
    have HX : Hid (repAns z n = noS) := Lib.hid (by unfold repAns; rw [if_neg (by rw [hb]; simp)])
    have HV := Lib.hid hv
    clear hb hv
    go_enter Try.func17, Try.ntmps17
    go_wp2_with fail
    refine (HV.out _).mono ?_
    rintro e w1 ⟨rfl, rfl⟩
    go_wp2
    go_ret2
    exact ⟨ret_sA HX.out, Below.refl _ _⟩
  | true =>
    rw [hb] at hv
    cases hr : repsB n with
    | false =>
      have HX : Hid (repAns z n = noS) := Lib.hid (by unfold repAns; rw [if_neg (by rw [hr]; simp)])
      have hR := fun w => sReps_any n w
      rw [hr] at hR
      have HV := Lib.hid hv
      have HR := Lib.hid hR
      clear hb hv hr hR
      go_enter Try.func17, Try.ntmps17
      go_wp2_with fail
      refine (HV.out _).mono ?_
      rintro e w1 ⟨rfl, rfl⟩
      go_wp2_with fail
      refine (HR.out _).mono ?_
      rintro e w1 ⟨rfl, rfl⟩
      go_wp2
      go_ret2
      exact ⟨ret_sA HX.out, Below.refl _ _⟩
    | true =>
      obtain ⟨m, rfl, m1, m9, mo⟩ := reps_nat hr
      by_cases h6 : z.size * m ≤ 600
      · have HX : Hid (repAns z m = (repS z m, true)) := Lib.hid (by unfold repAns; rw [Int.toNat_natCast, if_pos ⟨hb, hr, h6⟩])
        refine (sRepeat_yes z m w hb m1 m9 mo h6).mono ?_
        rintro e w' ⟨rfl, h⟩
        exact ⟨ret_sA HX.out, h⟩
      · have HX : Hid (repAns z m = noS) := Lib.hid (by unfold repAns; rw [Int.toNat_natCast, if_neg (fun h => h6 h.2.2)])
        have hR := fun w => sReps_any (m : Int) w
        rw [hr] at hR
        have hz6 := (bits_of2 hb).2
        obtain ⟨P, hP⟩ : ∃ P, z.size * m = P := ⟨_, rfl⟩
        have v1 : (z.size : Int) * (m : Int) = (P : Int) := by rw [← hP]; exact (Int.natCast_mul _ _).symm
        have hPb : P ≤ 600 * 9 := by rw [← hP]; exact Nat.mul_le_mul hz6 m9
        have g6 : (600 : Int) < (P : Int) := by omega
        have HV := Lib.hid hv
        have HR := Lib.hid hR
        clear hb hv hr hR h6 hP mo
        go_enter Try.func17, Try.ntmps17
        go_wp2_with fail
        refine (HV.out _).mono ?_
        rintro e w1 ⟨rfl, rfl⟩
        go_wp2_with fail
        refine (HR.out _).mono ?_
        rintro e w1 ⟨rfl, rfl⟩
        go_wp2
        go_ret2
        exact ⟨ret_sA HX.out, Below.refl _ _⟩
end Go.Proofs.Ytkpiloefmhhclaa
