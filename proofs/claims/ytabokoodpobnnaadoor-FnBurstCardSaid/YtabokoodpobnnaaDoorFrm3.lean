/- Bits in rows, read by columns, and back: of both sides. -/
import Derived.Test.YtabokoodpobnnaaDoorFrm2
namespace Go.Proofs.YtabokoodpobnnaaDoor
open Go.RowKit Go.Shelf
set_option linter.unusedVariables false
set_option maxRecDepth 100000
/-- Bits that can be written in rows. -/
def fitB (z : ByteArray) (n : Int) : Bool := bitsB z && (decide (1 ≤ n) && (decide (n ≤ 40) && decide (z.size % n.toNat = 0)))
theorem fitB_iff (z : ByteArray) (n : Int) : fitB z n = true ↔ bitsB z = true ∧ 1 ≤ n ∧ n ≤ 40 ∧ z.size % n.toNat = 0 := by unfold fitB; simp only [Bool.and_eq_true, decide_eq_true_eq]
theorem fit_nat {z : ByteArray} {n : Int} (h : fitB z n = true) : ∃ R C : Nat, n = R ∧ 1 ≤ R ∧ R ≤ 40 ∧ z.size = R * C ∧ z.size / R = C ∧ z.size ≤ 600 ∧ C ≤ 600 := by
  obtain ⟨h1, h2, h3, h4⟩ := (fitB_iff z n).1 h
  have hz := (bits_of2 h1).2
  have hd := Nat.div_le_self z.size n.toNat
  refine ⟨n.toNat, z.size / n.toNat, by omega, by omega, by omega, ?_, rfl, hz, by omega⟩
  have := Nat.div_add_mod z.size n.toNat
  omega
def intAns (z : ByteArray) (n : Int) : ByteArray × Bool := if fitB z n then (weaveS z n.toNat (z.size / n.toNat), true) else noS
def deintAns (z : ByteArray) (n : Int) : ByteArray × Bool := if fitB z n then (weaveS z (z.size / n.toNat) n.toNat, true) else noS
theorem iRows_any (n : Int) (w : World) : Calls Tryd.prog 28 #[.int .i64 n] w fun e w' => e = .returned (.bool (decide (1 ≤ n) && decide (n ≤ 40))) ∧ w = w' := by
  by_cases h1 : 1 ≤ n
  · have HX : Hid (decide (n ≤ 40) = (decide (1 ≤ n) && decide (n ≤ 40))) := Lib.hid (by rw [decide_eq_true h1]; rfl)
    go_enter Tryd.func28, Tryd.ntmps28
    go_wp2
    go_ret
    exact ⟨ret_bool HX.out, rfl⟩
  · have HX : Hid (false = (decide (1 ≤ n) && decide (n ≤ 40))) := Lib.hid (by rw [decide_eq_false h1]; rfl)
    go_enter Tryd.func28, Tryd.ntmps28
    go_wp2
    go_ret
    exact ⟨ret_bool HX.out, rfl⟩
theorem iFit_any (z : ByteArray) (n : Int) (w : World) (hs : z.size ≤ 1048576) : Calls Tryd.prog 77 #[.string z, .int .i64 n] w fun e w' => e = .returned (.bool (fitB z n)) ∧ w = w' := by
  have hv := fun w => bitsValid_any z w (by omega)
  have hr := fun w => iRows_any n w
  have HV := Lib.hid hv
  have HR := Lib.hid hr
  clear hv hr
  cases hb : bitsB z with
  | false =>
    have HX : Hid (false = fitB z n) := Lib.hid (by unfold fitB; rw [hb]; rfl)
    rw [hb] at HV
    clear hb
    go_enter Tryd.func77, Tryd.ntmps77
    go_wp2_with fail
    refine (HV.out _).mono ?_
    rintro e w1 ⟨rfl, rfl⟩
    go_wp2
    go_ret
    exact ⟨ret_bool HX.out, rfl⟩
  | true =>
    rw [hb] at HV
    by_cases h1 : 1 ≤ n ∧ n ≤ 40
    · obtain ⟨R, rfl⟩ : ∃ R : Nat, n = R := ⟨n.toNat, by omega⟩
      have hv := mod_value z.size R
      have HX : Hid ((((z.size % R : Nat) : Int) == 0) = fitB z R) := Lib.hid (by
        unfold fitB
        rw [hb, decide_eq_true h1.1, decide_eq_true h1.2, Int.toNat_natCast, Bool.true_and, Bool.true_and, Bool.true_and, Bool.eq_iff_iff, beq_iff_eq, decide_eq_true_eq]
        omega)
      obtain ⟨M, hM⟩ : ∃ M, z.size % R = M := ⟨_, rfl⟩
      rw [hM] at hv HX
      have p1 : (1 : Int) ≤ (R : Int) := h1.1
      have p2 : ¬ (R : Int) = 0 := by omega
      have p3 : ((R : Int) == 0) = false := by simp; omega
      rw [decide_eq_true h1.1, decide_eq_true h1.2, Bool.true_and] at HR
      clear hb hM h1
      go_enter Tryd.func77, Tryd.ntmps77
      go_wp2_with fail
      refine (HV.out _).mono ?_
      rintro e w1 ⟨rfl, rfl⟩
      go_wp2_with fail
      refine (HR.out _).mono ?_
      rintro e w1 ⟨rfl, rfl⟩
      go_wp2
      go_ret
      exact ⟨ret_bool HX.out, rfl⟩
    · have HX : Hid (false = fitB z n) := Lib.hid (by
        cases h : fitB z n with
        | false => rfl
        | true => exact absurd ⟨((fitB_iff z n).1 h).2.1, ((fitB_iff z n).1 h).2.2.1⟩ h1)
      rw [show (decide (1 ≤ n) && decide (n ≤ 40)) = false by
        cases hd : (decide (1 ≤ n) && decide (n ≤ 40)) with
        | false => rfl
        | true => rw [Bool.and_eq_true, decide_eq_true_eq, decide_eq_true_eq] at hd; exact absurd hd h1] at HR
      clear hb h1
      go_enter Tryd.func77, Tryd.ntmps77
      go_wp2_with fail
      refine (HV.out _).mono ?_
      rintro e w1 ⟨rfl, rfl⟩
      go_wp2_with fail
      refine (HR.out _).mono ?_
      rintro e w1 ⟨rfl, rfl⟩
      go_wp2
      go_ret
      exact ⟨ret_bool HX.out, rfl⟩
theorem sFit_any (z : ByteArray) (n : Int) (w : World) (hs : z.size ≤ 1048576) : Calls Tryd.prog 82 #[.string z, .int .i64 n] w fun e w' => e = .returned (.bool (fitB z n)) ∧ w = w' := by
  have HV := Lib.hid (fun w => l1Bits_any z w (by omega))
  cases hb : bitsB z with
  | false =>
    have HX : Hid (false = fitB z n) := Lib.hid (by unfold fitB; rw [hb]; rfl)
    rw [hb] at HV
    clear hb
    go_enter Tryd.func82, Tryd.ntmps82
    go_wp2_with fail
    refine (HV.out _).mono ?_
    rintro e w1 ⟨rfl, rfl⟩
    go_wp2
    go_ret
    exact ⟨ret_bool HX.out, rfl⟩
  | true =>
    rw [hb] at HV
    by_cases h1 : 1 ≤ n ∧ n ≤ 40
    · obtain ⟨R, rfl⟩ : ∃ R : Nat, n = R := ⟨n.toNat, by omega⟩
      have hv := mod_value z.size R
      have HX : Hid ((((z.size % R : Nat) : Int) == 0) = fitB z R) := Lib.hid (by
        unfold fitB
        rw [hb, decide_eq_true h1.1, decide_eq_true h1.2, Int.toNat_natCast, Bool.true_and, Bool.true_and, Bool.true_and, Bool.eq_iff_iff, beq_iff_eq, decide_eq_true_eq]
        omega)
      obtain ⟨M, hM⟩ : ∃ M, z.size % R = M := ⟨_, rfl⟩
      rw [hM] at hv HX
      have HI := Lib.hid (fun w => l1In_yes (R : Int) 1 40 w h1.1 h1.2)
      have p1 : (1 : Int) ≤ (R : Int) := h1.1
      have p2 : ¬ (R : Int) = 0 := by omega
      have p3 : ((R : Int) == 0) = false := by simp; omega
      clear hb hM h1
      go_enter Tryd.func82, Tryd.ntmps82
      go_wp2_with fail
      refine (HV.out _).mono ?_
      rintro e w1 ⟨rfl, rfl⟩
      go_wp2_with fail
      refine (HI.out _).mono ?_
      rintro e w1 ⟨rfl, rfl⟩
      go_wp2
      go_ret
      exact ⟨ret_bool HX.out, rfl⟩
    · have HX : Hid (false = fitB z n) := Lib.hid (by
        cases h : fitB z n with
        | false => rfl
        | true => exact absurd ⟨((fitB_iff z n).1 h).2.1, ((fitB_iff z n).1 h).2.2.1⟩ h1)
      have HI := Lib.hid (fun w => l1In_no n 1 40 w h1)
      clear hb h1
      go_enter Tryd.func82, Tryd.ntmps82
      go_wp2_with fail
      refine (HV.out _).mono ?_
      rintro e w1 ⟨rfl, rfl⟩
      go_wp2_with fail
      refine (HI.out _).mono ?_
      rintro e w1 ⟨rfl, rfl⟩
      go_wp2
      go_ret
      exact ⟨ret_bool HX.out, rfl⟩
theorem col1_any (z : ByteArray) (R C bx br bc i : Nat) (w : World) (h0 : w.cell? ⟨bx, 0, none⟩ = some (.string z)) (h1 : w.cell? ⟨br, 0, none⟩ = some (.int .i64 R)) (h2 : w.cell? ⟨bc, 0, none⟩ = some (.int .i64 C))
    (hn : z.size = R * C) (hz : z.size ≤ 600) (hi : i < z.size) :
    Calls Tryd.prog 98 #[.int .i64 i, .pointer (some ⟨bx, 0, none⟩), .pointer (some ⟨br, 0, none⟩), .pointer (some ⟨bc, 0, none⟩)] w fun e w' => e = .returned (.int .u8 (zb z (i % R * C + i / R) : Nat)) ∧ Below w.heap.size w w' := by
  rw [hn] at hi
  obtain ⟨h3, h4, h5⟩ := weave_lt hi
  have v1 := mod_value i R
  have v2 := div_value i R (by omega)
  have v3 : ((i % R : Nat) : Int) * (C : Int) = ((i % R * C : Nat) : Int) := (Int.natCast_mul _ _).symm
  have hb1 : i % R * C ≤ R * C := Nat.le_of_lt (Nat.lt_of_le_of_lt (Nat.le_add_right _ _) h3)
  rw [← hn] at h3 hb1
  have q1 : i % R * C ≤ 600 := Nat.le_trans hb1 hz
  have q2 : i / R ≤ 600 := Nat.le_trans (Nat.le_trans (Nat.le_add_left _ _) (Nat.le_of_lt h3)) hz
  obtain ⟨M, hM⟩ : ∃ M, i % R = M := ⟨_, rfl⟩
  obtain ⟨Q, hQ⟩ : ∃ Q, i / R = Q := ⟨_, rfl⟩
  rw [hM] at v1 v3 h3 hb1 h5 q1 ⊢
  rw [hQ] at v2 h3 h4 q2 ⊢
  obtain ⟨P, hP⟩ : ∃ P, M * C = P := ⟨_, rfl⟩
  rw [hP] at v3 h3 hb1 q1 ⊢
  have p1 : (1 : Int) ≤ (R : Int) := by omega
  have p2 : ¬ (R : Int) = 0 := by omega
  obtain ⟨J, hJ⟩ : ∃ J, P + Q = J := ⟨_, rfl⟩
  rw [hJ] at h3 ⊢
  have v4 : (P : Int) + (Q : Int) = (J : Int) := by omega
  have i0 : (0 : Int) ≤ (J : Int) := by omega
  have i1 : (J : Int) < (z.size : Int) := by omega
  have HZ := Lib.hid (zb_at z J h3)
  clear hM hQ hP hJ hb1 h4 h5 hn hi
  have v5 : IntKind.i64.wrap ((M : Int) * (C : Int)) = (P : Int) := by rw [v3]; exact IntWalk.i64_in _ (by omega)
  have v6 : IntKind.i64.wrap ((P : Int) + (Q : Int)) = (J : Int) := by rw [v4]; exact IntWalk.i64_in _ (by omega)
  clear v3 v4
  go_enter Tryd.func98, Tryd.ntmps98
  go_wp2_with fail
  go_quiet (fail)
  go_wp2
  go_ret
  exact ⟨ret_u8 HZ.out, below_drewN (Below.refl _ _) _⟩
theorem colw_any (z : ByteArray) (R C : Nat) (w : World) (hn : z.size = R * C) (hz : z.size ≤ 600) :
    Calls Tryd.prog 78 #[.string z, .int .i64 R, .int .i64 C] w fun e w' => e = .returned (.string (weaveS z R C)) ∧ Below w.heap.size w w' := by
  have s1 : (w.alloc (.cells #[.string z] 9)).heap.size = w.heap.size + 1 := World.size_alloc _ _
  have s2 : ((w.alloc (.cells #[.string z] 9)).alloc (.cells #[.int .i64 R] 3)).heap.size = w.heap.size + 1 + 1 := by rw [World.size_alloc, s1]
  have cs : (((w.alloc (.cells #[.string z] 9)).alloc (.cells #[.int .i64 R] 3)).alloc (.cells #[.int .i64 C] 3)).heap.size = w.heap.size + 3 := by rw [World.size_alloc, s2]
  have b0 := (((Below.refl w.heap.size w).alloc (Nat.le_refl _) (.cells #[.string z] 9)).alloc (by omega) (.cells #[.int .i64 R] 3)).alloc (by omega) (.cells #[.int .i64 C] 3)
  have c0 := box_old (box_old (box_new w (.string z) 9) (by omega) (.cells #[.int .i64 R] 3)) (by omega) (.cells #[.int .i64 C] 3)
  have c1 := box_old (box_new (w.alloc (.cells #[.string z] 9)) (.int .i64 R) 3) (by omega) (.cells #[.int .i64 C] 3)
  have c2 := box_new ((w.alloc (.cells #[.string z] 9)).alloc (.cells #[.int .i64 R] 3)) (.int .i64 C) 3
  rw [s1] at c1
  rw [s2] at c2
  have hcall : ∀ W, W = ((w.alloc (.cells #[.string z] 9)).alloc (.cells #[.int .i64 R] 3)).alloc (.cells #[.int .i64 C] 3) → Calls Tryd.prog 80 #[.int .i64 z.size, .func (.func 98) #[] #[.pointer (some ⟨w.heap.size, 0, none⟩), .pointer (some ⟨w.heap.size + 1, 0, none⟩), .pointer (some ⟨w.heap.size + 1 + 1, 0, none⟩)]] W
      fun e w' => e = .returned (.string (weaveS z R C)) ∧ Below W.heap.size W w' := fun W hW => by
    refine bitsOf_any z.size (fun i => zb z (i % R * C + i / R)) 98 _ W (by omega) (enters_of Tryd.func98 (by kernel_rfl) rfl) ?_
    intro V i hV hi
    subst hW
    refine (col1_any z R C w.heap.size (w.heap.size + 1) (w.heap.size + 1 + 1) i V (box_kept c0 (by rw [cs]; omega) hV) (box_kept c1 (by rw [cs]; omega) hV) (box_kept c2 (by rw [cs]; omega) hV) hn hz hi).mono ?_
    rintro e w' ⟨rfl, h⟩
    exact ⟨rfl, h⟩
  obtain ⟨y, hy⟩ : ∃ y, weaveS z R C = y := ⟨_, rfl⟩
  rw [hy] at hcall ⊢
  have HC := Lib.hid hcall
  have HB := Lib.hid b0
  clear hy hcall b0 c0 c1 c2 cs hn
  go_enter Tryd.func78, Tryd.ntmps78
  go_wp2_with fail
  refine (HC.out _ rfl).mono ?_
  rintro e w1 ⟨rfl, hb1⟩
  have b1 := below_then HB.out (by simp) hb1
  clear hb1
  go_wp2
  go_ret
  exact ⟨rfl, b1⟩
theorem iInter_any (z : ByteArray) (n : Int) (w : World) (hs : z.size ≤ 1048576) :
    Calls Tryd.prog 35 #[.string z, .int .i64 n] w fun e w' => e = .returned (.tuple #[.string (intAns z n).1, .bool (intAns z n).2]) ∧ Below w.heap.size w w' := by
  have HF := Lib.hid (fun w => iFit_any z n w hs)
  cases hf : fitB z n with
  | false =>
    have HX : Hid (intAns z n = noS) := Lib.hid (by unfold intAns; rw [hf]; rfl)
    rw [hf] at HF
    clear hf
    go_enter Tryd.func35, Tryd.ntmps35
    go_wp2_with fail
    refine (HF.out _).mono ?_
    rintro e w1 ⟨rfl, rfl⟩
    go_wp2
    go_ret2
    exact ⟨ret_sA HX.out, Below.refl _ _⟩
  | true =>
    obtain ⟨R, C, rfl, r1, r40, hn, hc, hz, hC⟩ := fit_nat hf
    have HX : Hid (intAns z R = (weaveS z R C, true)) := Lib.hid (by unfold intAns; rw [hf, Int.toNat_natCast, hc]; rfl)
    rw [hf] at HF
    have HW := Lib.hid (fun w => colw_any z R C w hn hz)
    have v1 := div_value z.size R hs
    rw [hc] at v1
    have p1 : (1 : Int) ≤ (R : Int) := by omega
    have p2 : ¬ (R : Int) = 0 := by omega
    clear hf hn hc
    go_enter Tryd.func35, Tryd.ntmps35
    go_wp2_with fail
    refine (HF.out _).mono ?_
    rintro e w1 ⟨rfl, rfl⟩
    go_wp2_with fail
    refine (HW.out _).mono ?_
    rintro e w1 ⟨rfl, b1⟩
    go_wp2
    go_ret2
    exact ⟨ret_sA HX.out, b1⟩
theorem iDeint_any (z : ByteArray) (n : Int) (w : World) (hs : z.size ≤ 1048576) :
    Calls Tryd.prog 42 #[.string z, .int .i64 n] w fun e w' => e = .returned (.tuple #[.string (deintAns z n).1, .bool (deintAns z n).2]) ∧ Below w.heap.size w w' := by
  have HF := Lib.hid (fun w => iFit_any z n w hs)
  cases hf : fitB z n with
  | false =>
    have HX : Hid (deintAns z n = noS) := Lib.hid (by unfold deintAns; rw [hf]; rfl)
    rw [hf] at HF
    clear hf
    go_enter Tryd.func42, Tryd.ntmps42
    go_wp2_with fail
    refine (HF.out _).mono ?_
    rintro e w1 ⟨rfl, rfl⟩
    go_wp2
    go_ret2
    exact ⟨ret_sA HX.out, Below.refl _ _⟩
  | true =>
    obtain ⟨R, C, rfl, r1, r40, hn, hc, hz, hC⟩ := fit_nat hf
    have HX : Hid (deintAns z R = (weaveS z C R, true)) := Lib.hid (by unfold deintAns; rw [hf, Int.toNat_natCast, hc]; rfl)
    rw [hf] at HF
    have HW := Lib.hid (fun w => colw_any z C R w (by rw [hn, Nat.mul_comm]) hz)
    have v1 := div_value z.size R hs
    rw [hc] at v1
    have p1 : (1 : Int) ≤ (R : Int) := by omega
    have p2 : ¬ (R : Int) = 0 := by omega
    clear hf hn hc
    go_enter Tryd.func42, Tryd.ntmps42
    go_wp2_with fail
    refine (HF.out _).mono ?_
    rintro e w1 ⟨rfl, rfl⟩
    go_wp2_with fail
    refine (HW.out _).mono ?_
    rintro e w1 ⟨rfl, b1⟩
    go_wp2
    go_ret2
    exact ⟨ret_sA HX.out, b1⟩
theorem l6Weave_any (z : ByteArray) (R C : Nat) (w : World) (r1 : 1 ≤ R) (hn : z.size = R * C) (hz : z.size ≤ 600) (hc : z.size / R = C) (r40 : R ≤ 600) :
    Calls Tryd.prog 27 #[.string z, .int .i64 R] w fun e w' => e = .returned (.string (weaveS z R C)) ∧ Below w.heap.size w w' := by
  have hmk := make_bytes_cap z.size (by omega)
  have O0 := BO.made0 w z.size (fun j => zb z (j % R * C + j / R)) (by omega)
  have b0 := (Below.refl w.heap.size w).alloc (Nat.le_refl _) (.cells (madeCells #[.int .u8 0] z.size) 5)
  have v1 := div_value z.size R (by omega)
  rw [hc] at v1
  have p1 : (1 : Int) ≤ (R : Int) := by omega
  have p2 : ¬ (R : Int) = 0 := by omega
  have hC : C ≤ 600 := by rw [← hc]; exact Nat.le_trans (Nat.div_le_self _ _) hz
  have HN := Lib.hid hn
  clear hn hc
  go_enter Tryd.func27, Tryd.ntmps27
  go_wp2
  go_loopw [5, 6] (fun v i wr => ∃ c : Nat, c ≤ C ∧ i = .int .i64 c ∧ v = .slice (some ⟨w.heap.size, 0, none⟩) (c * R) z.size ∧ BO wr w.heap.size (.slice (some ⟨w.heap.size, 0, none⟩) (c * R) z.size) (c * R) (fun j => zb z (j % R * C + j / R)) ∧ Below w.heap.size w wr) (fun _ i _ => C - (intOf i).toNat)
  case atStart => exact ⟨0, by omega, rfl, by rw [Nat.zero_mul], by rw [Nat.zero_mul]; exact O0, b0⟩
  case round =>
    obtain ⟨c, hcC, rfl, rfl, rO, rb⟩ := hrel
    clear hmk O0 b0
    by_cases hlt : c < C
    · go_wp2
      go_loopw [5, 7] (fun v i wr => ∃ r : Nat, r ≤ R ∧ i = .int .i64 r ∧ v = .slice (some ⟨w.heap.size, 0, none⟩) (c * R + r) z.size ∧ BO wr w.heap.size (.slice (some ⟨w.heap.size, 0, none⟩) (c * R + r) z.size) (c * R + r) (fun j => zb z (j % R * C + j / R)) ∧ Below w.heap.size w wr) (fun _ i _ => R - (intOf i).toNat)
      case atStart => exact ⟨0, by omega, rfl, rfl, rO, rb⟩
      case round =>
        clear rO rb
        obtain ⟨r, hrR, rfl, rfl, rO, rb⟩ := hrel
        by_cases hltr : r < R
        · have hprod : (c + 1) * R ≤ C * R := Nat.mul_le_mul_right _ hlt
          rw [Nat.add_mul, Nat.one_mul, Nat.mul_comm C R, ← HN.out] at hprod
          obtain ⟨K, hK⟩ : ∃ K, c * R + r = K := ⟨_, rfl⟩
          have hKn : K < z.size := by omega
          have e1 : K % R = r := by rw [← hK, Nat.mul_comm, Nat.mul_add_mod, Nat.mod_eq_of_lt hltr]
          have e2 : K / R = c := by rw [← hK, Nat.mul_comm, Nat.mul_add_div (by omega), Nat.div_eq_of_lt hltr, Nat.add_zero]
          have hJ := weave_lt (R := R) (C := C) (i := K) (by rw [← HN.out]; exact hKn)
          rw [e1, e2, ← HN.out] at hJ
          have v2 : (r : Int) * (C : Int) = ((r * C : Nat) : Int) := (Int.natCast_mul _ _).symm
          obtain ⟨P, hP⟩ : ∃ P, r * C = P := ⟨_, rfl⟩
          rw [hP] at v2 hJ
          obtain ⟨J, hJJ⟩ : ∃ J, P + c = J := ⟨_, rfl⟩
          have hJ1 := hJ.1
          rw [hJJ] at hJ1
          have v3 : (P : Int) + (c : Int) = (J : Int) := by omega
          have i0 : (0 : Int) ≤ (J : Int) := by omega
          have i1 : (J : Int) < (z.size : Int) := by omega
          have q1 : P ≤ 600 := by omega
          have HZ := Lib.hid (show z[J].toNat = zb z (K % R * C + K / R) by rw [e1, e2, hP, hJJ, zb_at z J hJ1])
          rw [hK] at rO ⊢
          have HK := Lib.hid hK
          have i2 : (r : Int) < (R : Int) := by omega
          clear e1 e2 hP hJJ hJ hK hprod
          go_wp2_with (at_builtin; refine wpList_append_bfit rfl (.tmp 24) (.tmp 35) rfl w.heap.size w.heap.size K z.size _ rfl (rO.alloc _) wr.heap.size 1 (z[J].toNat) rfl (by simp) (by omega) ?_; intro w' O3 g3)
          have O4 := Lib.hid (O3.congr (g := fun j => zb z (j % R * C + j / R)) (fun j hj => by
            by_cases e : j < K
            · rw [if_pos e]
            · rw [if_neg e, HZ.out, show j = K by omega]))
          have hsz := rb.size
          have nb : Hid (Below w.heap.size w w') := Lib.hid ((rb.alloc hsz _).grown g3 (by simp; omega) (fun q hq => by cases hq; exact Nat.le_refl _))
          clear O3 g3 rO rb hsz v2 v3
          go_wp2
          go_roundw
          case rel => exact ⟨r + 1, by omega, by go_num, by rw [← HK.out]; congr 1, by rw [← Nat.add_assoc, HK.out]; exact O4.out, nb.out⟩
          case measure => simp [intOf]; omega
        · obtain rfl : r = R := by omega
          have e3 : c * r + r = (c + 1) * r := by rw [Nat.add_mul, Nat.one_mul]
          rw [e3] at rO ⊢
          go_wp2
          go_roundw
          case rel => exact ⟨c + 1, by omega, by go_num, rfl, rO, rb⟩
          case measure => simp [intOf]; omega
    · obtain rfl : c = C := by omega
      have e4 : c * R = z.size := by rw [Nat.mul_comm, HN.out]
      rw [e4] at rO ⊢
      have hst := rO.text
      have HW : Hid (strF z.size (fun j => zb z (j % R * c + j / R)) = weaveS z R c) := Lib.hid rfl
      obtain ⟨y, hy⟩ : ∃ y, strF z.size (fun j => zb z (j % R * c + j / R)) = y := ⟨_, rfl⟩
      rw [hy] at hst HW
      clear hy rO e4
      go_wp2
      go_ret
      exact ⟨ret_str HW.out, rb⟩
theorem deint_step {wr : World} {b k p : Nat} {t : TypeId} (z : ByteArray) (R C : Nat) (hn : z.size = R * C) (hk : k < z.size) (hp : k % R * C + k / R = p)
    (rB : Bytes wr b t z.size (fun j => if j % C * R + j / C < k then zb z (j % C * R + j / C) else 0)) :
    Bytes (wr.setCell ⟨b, p, none⟩ (.int .u8 (zb z k : Nat))) b t z.size (fun j => if j % C * R + j / C < k + 1 then zb z (j % C * R + j / C) else 0) := by
  refine Bytes.set rB p (zb z k) fun v hv => ?_
  have hb := weave_back (R := R) (C := C) (i := k) (by rw [← hn]; exact hk)
  rw [hp] at hb
  by_cases e : v = p
  · subst e
    simp [hb]
  · rw [if_neg e]
    have hv2 := weave_back (R := C) (C := R) (i := v) (by rw [Nat.mul_comm, ← hn]; exact hv)
    have hne : v % C * R + v / C ≠ k := fun h => e (by rw [h] at hv2; omega)
    by_cases e' : v % C * R + v / C < k
    · rw [if_pos (by omega), if_pos e']
    · rw [if_neg (by omega), if_neg e']
theorem sDeint_any (z : ByteArray) (n : Int) (w : World) (hs : z.size ≤ 1048576) :
    Calls Tryd.prog 38 #[.string z, .int .i64 n] w fun e w' => e = .returned (.tuple #[.string (deintAns z n).1, .bool (deintAns z n).2]) ∧ Below w.heap.size w w' := by
  have HF := Lib.hid (fun w => sFit_any z n w hs)
  have hmk := make_bytes z.size (by omega) (by omega)
  have b0 := (Below.refl w.heap.size w).alloc (Nat.le_refl _) (.cells (madeCells #[.int .u8 0] z.size) 5)
  cases hf : fitB z n with
  | false =>
    have HX : Hid (deintAns z n = noS) := Lib.hid (by unfold deintAns; rw [hf]; rfl)
    rw [hf] at HF
    clear hf
    go_enter Tryd.func38, Tryd.ntmps38
    go_wp2_with fail
    refine (HF.out _).mono ?_
    rintro e w1 ⟨rfl, rfl⟩
    go_wp2
    go_ret2
    exact ⟨ret_sA HX.out, b0⟩
  | true =>
    obtain ⟨R, C, rfl, r1, r40, hn, hc, hz, hC⟩ := fit_nat hf
    have HX : Hid (deintAns z R = (weaveS z C R, true)) := Lib.hid (by unfold deintAns; rw [hf, Int.toNat_natCast, hc]; rfl)
    rw [hf] at HF
    have v1 := div_value z.size R hs
    rw [hc] at v1
    have p1 : (1 : Int) ≤ (R : Int) := by omega
    have p2 : ¬ (R : Int) = 0 := by omega
    have HN := Lib.hid hn
    clear hf hn hc
    go_enter Tryd.func38, Tryd.ntmps38
    go_wp2_with fail
    refine (HF.out _).mono ?_
    rintro e w1 ⟨rfl, rfl⟩
    go_wp2
    go_loopw [7] (fun i wr => ∃ k : Nat, k ≤ z.size ∧ i = .int .i64 k ∧ Bytes wr w.heap.size 5 z.size (fun j => if j % C * R + j / C < k then zb z (j % C * R + j / C) else 0) ∧ Below w.heap.size w wr) (fun i _ => z.size - (intOf i).toNat)
    case atStart => exact ⟨0, by omega, rfl, Bytes.congr (Bytes.new rfl) (fun v _ => by simp), b0⟩
    case round =>
      obtain ⟨k, hk, rfl, rB, rb⟩ := hrel
      clear hmk b0
      by_cases hlt : k < z.size
      · have hJ := weave_lt (R := R) (C := C) (i := k) (by rw [← HN.out]; exact hlt)
        rw [← HN.out] at hJ
        obtain ⟨hJ1, hJ2, hJ3⟩ := hJ
        have v2 := mod_value k R
        have v3 := div_value k R (by omega)
        have v4 : ((k % R : Nat) : Int) * (C : Int) = ((k % R * C : Nat) : Int) := (Int.natCast_mul _ _).symm
        have hst := fun p hp => deint_step (p := p) z R C HN.out hlt hp rB
        obtain ⟨M, hM⟩ : ∃ M, k % R = M := ⟨_, rfl⟩
        obtain ⟨Q, hQ⟩ : ∃ Q, k / R = Q := ⟨_, rfl⟩
        rw [hM] at v2 v4 hJ1 hJ3 hst
        rw [hQ] at v3 hJ1 hJ2 hst
        obtain ⟨P, hP⟩ : ∃ P, M * C = P := ⟨_, rfl⟩
        rw [hP] at v4 hJ1 hst
        obtain ⟨J, hJJ⟩ : ∃ J, P + Q = J := ⟨_, rfl⟩
        have nB0 := hst J hJJ
        rw [hJJ] at hJ1
        have v5 : (P : Int) + (Q : Int) = (J : Int) := by omega
        have i0 : (0 : Int) ≤ (J : Int) := by omega
        have i1 : (J : Int) < (z.size : Int) := by omega
        have i2 : (0 : Int) ≤ (k : Int) := by omega
        have i3 : (k : Int) < (z.size : Int) := by omega
        have q1 : P ≤ 600 := by omega
        have q2 : Q ≤ 600 := by omega
        rw [← zb_at z k hlt] at nB0
        have hcl := rB.cell J hJ1
        have hfz := World.rowIs.frozen rB J
        have nB := Lib.hid (show Bytes (wr.setCell ⟨w.heap.size, J, none⟩ (.int .u8 (z[k].toNat : Nat))).drew w.heap.size 5 z.size _ from nB0)
        have nb : Hid (Below w.heap.size w (wr.setCell ⟨w.heap.size, J, none⟩ (.int .u8 (z[k].toNat : Nat))).drew) := Lib.hid (below_drew (bytes_below rb (Nat.le_refl _) _ _))
        have v6 : IntKind.i64.wrap ((M : Int) * (C : Int)) = (P : Int) := by rw [v4]; exact IntWalk.i64_in _ (by omega)
        have v7 : IntKind.i64.wrap ((P : Int) + (Q : Int)) = (J : Int) := by rw [v5]; exact IntWalk.i64_in _ (by omega)
        have p3 : ((R : Int) == 0) = false := by simp; omega
        have p4 : ¬ R = 0 := by omega
        clear hM hQ hP hJJ hst nB0 rB rb hJ2 hJ3 v4 v5
        go_wp2_with fail
        go_still_tail 17, (by kernel_rfl)
        clear v2 v3 v6 v7
        go_wp2
        go_roundw
        case rel => exact ⟨k + 1, by omega, by go_num, nB.out, nb.out⟩
        case measure => simp [intOf]; omega
      · obtain rfl : k = z.size := by omega
        have hst := fun cap => rB.str (P := Tryd.prog) 29 5 9 (by kernel_rfl) (by kernel_rfl) (by kernel_rfl) 0 z.size cap (by omega)
        obtain ⟨y, hy⟩ : ∃ y, strF z.size (fun i => if (0 + i) % C * R + (0 + i) / C < z.size then zb z ((0 + i) % C * R + (0 + i) / C) else 0) = y := ⟨_, rfl⟩
        rw [hy] at hst
        have HY : Hid (deintAns z R = (y, true)) := Lib.hid (by
          rw [HX.out, ← hy]
          unfold weaveS
          congr 1
          refine strF_congr fun i hi => ?_
          have := (weave_lt (R := C) (C := R) (i := i) (by rw [Nat.mul_comm, ← HN.out]; exact hi)).1
          rw [Nat.mul_comm C R, ← HN.out] at this
          simp only [Nat.zero_add]
          rw [if_pos this])
        clear hy rB
        go_wp2
        go_ret2
        exact ⟨ret_sA HY.out, rb⟩
end Go.Proofs.YtabokoodpobnnaaDoor
