/- Contracts of steps: StepRegister, BackRegister, JumpRegister, of the program and of its model. -/
import Derived.Test.YtmmonhagceacjaaRegBase
namespace Go.Proofs.Ytmmonhagceacjaa
open Go.RowKit

theorem iRegisterValid_yes (s t x : Nat) (w : World) (h : RegN s t x) :
    Calls Try.prog 30 #[.agg #[.int .i64 s, .int .i64 t, .int .i64 x]] w fun e w' => e = .returned (.bool true) ∧ Below w.heap.size w w' := by
  rw [← h.valid]; exact iRegisterValid_any _ _ _ w
theorem iRegisterValid_no (S T X : Int) (w : World) (h : regB S T X = false) :
    Calls Try.prog 30 #[.agg #[.int .i64 S, .int .i64 T, .int .i64 X]] w fun e w' => e = .returned (.bool false) ∧ Below w.heap.size w w' := by
  rw [← h]; exact iRegisterValid_any _ _ _ w
theorem sRegisterValid_yes (s t x : Nat) (w : World) (h : RegN s t x) :
    Calls Try.prog 35 #[.agg #[.int .i64 s, .int .i64 t, .int .i64 x]] w fun e w' => e = .returned (.bool true) ∧ Below w.heap.size w w' := by
  rw [← h.valid]; exact sRegisterValid_any _ _ _ w
theorem sRegisterValid_no (S T X : Int) (w : World) (h : regB S T X = false) :
    Calls Try.prog 35 #[.agg #[.int .i64 S, .int .i64 T, .int .i64 X]] w fun e w' => e = .returned (.bool false) ∧ Below w.heap.size w w' := by
  rw [← h]; exact sRegisterValid_any _ _ _ w
/-- Behind a call, the two blocks are as they were. -/
theorem two_after {w W1 : World} {t : TypeId} {S T X : Int}
    (hb : Below ((w.alloc (.cells #[.int .i64 S, .int .i64 T, .int .i64 X] t)).alloc (.cells #[.int .i64 0, .int .i64 0, .int .i64 0] t)).heap.size ((w.alloc (.cells #[.int .i64 S, .int .i64 T, .int .i64 X] t)).alloc (.cells #[.int .i64 0, .int .i64 0, .int .i64 0] t)) W1) :
    Below w.heap.size w W1 ∧ RegAt W1 w.heap.size S T X ∧ RegAt W1 (w.heap.size + 1) 0 0 0 ∧ (∀ o, W1.frozen? ⟨w.heap.size, o, none⟩ = false) ∧ (∀ o, W1.frozen? ⟨w.heap.size + 1, o, none⟩ = false) ∧ w.heap.size + 2 ≤ W1.heap.size := by
  obtain ⟨W, h1, h2, h3, h4, h5, h6, h7⟩ := two_new w t S T X
  rw [h7] at hb
  refine ⟨below_then h1 (Nat.le_refl _) hb, h2.below hb h2.2.2.2, h3.below hb h3.2.2.2, ?_, ?_, ?_⟩
  · intro o; exact (hb.frozen (p := ⟨w.heap.size, o, none⟩) (by show w.heap.size < _; omega)).trans (h4 o)
  · intro o; exact (hb.frozen (p := ⟨w.heap.size + 1, o, none⟩) (by show w.heap.size + 1 < _; omega)).trans (h5 o)
  · have := hb.size; omega
set_option maxRecDepth 100000 in
theorem back_any (b : Nat) (s t x : Nat) (w : World) (hr : RegN s t x) (ha : RegAt w b s t x) (hf : w.frozen? ⟨b, 2, none⟩ = false) :
    Calls Try.prog 76 #[.pointer (some ⟨b, 0, none⟩)] w fun e w' => (∃ v, e = .returned v) ∧ RegAt w' b s t (backN s t x : Nat) ∧ w'.frozen? ⟨b, 2, none⟩ = false ∧ w.grownBy w' (some b) := by
  obtain ⟨k, rfl⟩ : ∃ k, s = k + 1 := ⟨s - 1, by have := hr.lo; omega⟩
  obtain ⟨c0, c1, c2, cl⟩ := id ha
  obtain ⟨h1, h2, h3, h4, h5⟩ := hr
  have h6 := tw_le (k + 1) h2
  have hk : IntKind.i64.wrap (k : Int) = k := IntWalk.i64_in _ (by omega)
  have hk0 : (0 : Int) ≤ (k : Int) := by omega
  go_enter Try.func76, Try.ntmps76
  go_wp2_with fail
  go_quiet (fail)
  go_wp2_with fail
  obtain ⟨W, hg, hR, hF⟩ : ∃ W, w.grownBy W (some b) ∧ RegAt W b (k + 1 : Nat) t x ∧ W.frozen? ⟨b, 2, none⟩ = false ∧ w.drewN nq = W := ⟨_, grownBy_drewN' w nq _, ⟨c0, c1, c2, cl⟩, hf, rfl⟩
  rw [hF.2]
  obtain ⟨d0, d1, d2, dl⟩ := id hR
  have df := hF.1
  clear hF c0 c1 c2 cl hf
  obtain ⟨y, hy⟩ : ∃ y, x % tw k * 2 = y := ⟨_, rfl⟩
  have hv1 := back_value1 k x h2 h5
  have hv2 := back_value2 k t x y h2 h5 hy
  rw [hy] at hv1
  have HV2 := Lib.hid hv2
  have HY := Lib.hid hy
  clear hv2 hy
  go_still_tail 15, (by kernel_rfl)
  clear hv1
  go_wp2_with fail
  obtain ⟨r1, r2, r3⟩ := RegAt.set hR df (y : Int)
  obtain ⟨V, hg2, hR2, hF2⟩ : ∃ V, w.grownBy V (some b) ∧ RegAt V b (k + 1 : Nat) t y ∧ V.frozen? ⟨b, 2, none⟩ = false ∧ (W.setCell ⟨b, 2, none⟩ (.int .i64 y)).drew = V := ⟨_, hg.trans r3, r1, r2, rfl⟩
  rw [hF2.2]
  have df2 := hF2.1
  clear hF2 r1 r2 r3 d0 d1 d2 df hR
  obtain ⟨d0, d1, d2, dl⟩ := id hR2
  have h8 := tw_succ k
  have h7 : y < 256 := by have := HY.out; have := Nat.mod_lt x (tw_pos k); omega
  have h9 : y &&& t ≤ y := Nat.and_le_left
  have e1 := and64 y t (by omega) (by omega)
  have hv2 := HV2.out
  clear HV2 HY h8
  go_still_tail 18, (by kernel_rfl)
  still_call (same_of (parity_any _ _ (by omega)))
  repeat still_step
  try refine wpStill_nil ?_
  clear hv2 e1
  go_wp2
  go_end0
  obtain ⟨r1, r2, r3⟩ := RegAt.set hR2 df2 ((backN (k + 1) t x : Nat) : Int)
  exact ⟨⟨_, rfl⟩, r1, r2, hg2.trans r3⟩
set_option maxRecDepth 100000 in
theorem iJump_no (S T X K : Int) (w : World) (h : regB S T X = false) :
    Calls Try.prog 31 #[.agg #[.int .i64 S, .int .i64 T, .int .i64 X], .int .i64 K] w fun e w' => e = .returned (.tuple #[.agg #[.int .i64 0, .int .i64 0, .int .i64 0], .bool false]) ∧ Below w.heap.size w w' := by
  go_enter Try.func31, Try.ntmps31
  go_wp2_with fail
  refine (iRegisterValid_no S T X _ h).mono ?_
  rintro e w1 ⟨rfl, hb1⟩
  obtain ⟨b1, ⟨c0, c1, c2, cl⟩, ⟨d0, d1, d2, dl⟩, f, g, hz⟩ := two_after hb1
  have g0 := g 0
  have g1 := g 1
  have g2 := g 2
  clear hb1 f g
  go_wp2
  refine bodyPost_ret (v := .tuple #[.agg #[.int .i64 0, .int .i64 0, .int .i64 0], .bool false]) (by simp [results, Try.results31, go_sem, d0, d1, d2]) rfl ⟨rfl, ?_⟩
  go_grown
set_option maxRecDepth 100000 in
theorem iJump_out (s t x : Nat) (K : Int) (w : World) (h : RegN s t x) (hk : jumpB t K = false) :
    Calls Try.prog 31 #[.agg #[.int .i64 s, .int .i64 t, .int .i64 x], .int .i64 K] w fun e w' => e = .returned (.tuple #[.agg #[.int .i64 0, .int .i64 0, .int .i64 0], .bool false]) ∧ Below w.heap.size w w' := by
  have ht : t < 256 := by have := h.tapLt; have := tw_le s h.hi; omega
  by_cases h1 : K < -5000
  · go_enter Try.func31, Try.ntmps31
    go_wp2_with fail
    refine (iRegisterValid_yes s t x _ h).mono ?_
    rintro e w1 ⟨rfl, hb1⟩
    obtain ⟨b1, ⟨c0, c1, c2, cl⟩, ⟨d0, d1, d2, dl⟩, f, g, hz⟩ := two_after hb1
    have g0 := g 0
    have g1 := g 1
    have g2 := g 2
    clear hb1 f g
    go_wp2
    refine bodyPost_ret (v := .tuple #[.agg #[.int .i64 0, .int .i64 0, .int .i64 0], .bool false]) (by simp [results, Try.results31, go_sem, d0, d1, d2]) rfl ⟨rfl, ?_⟩
    go_grown
  · by_cases h2 : 5000 < K
    · go_enter Try.func31, Try.ntmps31
      go_wp2_with fail
      refine (iRegisterValid_yes s t x _ h).mono ?_
      rintro e w1 ⟨rfl, hb1⟩
      obtain ⟨b1, ⟨c0, c1, c2, cl⟩, ⟨d0, d1, d2, dl⟩, f, g, hz⟩ := two_after hb1
      have g0 := g 0
      have g1 := g 1
      have g2 := g 2
      clear hb1 f g
      go_wp2
      refine bodyPost_ret (v := .tuple #[.agg #[.int .i64 0, .int .i64 0, .int .i64 0], .bool false]) (by simp [results, Try.results31, go_sem, d0, d1, d2]) rfl ⟨rfl, ?_⟩
      go_grown
    · have h3 : ¬ (0 ≤ K ∨ t % 2 = 1) := by
        intro h3
        have : jumpB t K = true := by
          simp only [jumpB, Bool.and_eq_true, Bool.or_eq_true, decide_eq_true_eq]; omega
        rw [this] at hk; cases hk
      clear hk
      have h4 : ¬ t % 2 = 1 := by omega
      have h5 : K < 0 := by omega
      go_enter Try.func31, Try.ntmps31
      go_wp2_with fail
      refine (iRegisterValid_yes s t x _ h).mono ?_
      rintro e w1 ⟨rfl, hb1⟩
      obtain ⟨b1, ⟨c0, c1, c2, cl⟩, ⟨d0, d1, d2, dl⟩, f, g, hz⟩ := two_after hb1
      have g0 := g 0
      have g1 := g 1
      have g2 := g 2
      clear hb1 f g h3
      go_wp2_with (first | (go_at_call 74; refine (firstTapped_no _ _ (by omega) h4).mono ?_; rintro e w' ⟨rfl, rfl⟩))
      refine bodyPost_ret (v := .tuple #[.agg #[.int .i64 0, .int .i64 0, .int .i64 0], .bool false]) (by simp [results, Try.results31, go_sem, d0, d1, d2]) rfl ⟨rfl, ?_⟩
      go_grown
set_option maxRecDepth 100000 in
theorem iJump_forth (s t x : Nat) (K : Nat) (w : World) (h : RegN s t x) (hk : K ≤ 5000) :
    Calls Try.prog 31 #[.agg #[.int .i64 s, .int .i64 t, .int .i64 x], .int .i64 K] w fun e w' => e = .returned (.tuple #[.agg #[.int .i64 s, .int .i64 t, .int .i64 (stepsN s t K x : Nat)], .bool true]) ∧ Below w.heap.size w w' := by
  go_enter Try.func31, Try.ntmps31
  go_wp2_with fail
  refine (iRegisterValid_yes s t x _ h).mono ?_
  rintro e w1 ⟨rfl, hb1⟩
  obtain ⟨b1, hA, hD, f, g, hz⟩ := two_after hb1
  obtain ⟨c0, c1, c2, cl⟩ := id hA
  obtain ⟨d0, d1, d2, dl⟩ := id hD
  clear hb1
  go_wp2_with fail
  go_loopw [28] (fun i wr => ∃ n : Nat, n ≤ K ∧ i = .int .i64 n ∧ RegAt wr w.heap.size s t (stepsN s t n x : Nat) ∧ wr.frozen? ⟨w.heap.size, 2, none⟩ = false ∧ RegAt wr (w.heap.size + 1) 0 0 0 ∧ (∀ o, wr.frozen? ⟨w.heap.size + 1, o, none⟩ = false) ∧ Below w.heap.size w wr) (fun i _ => K - (intOf i).toNat)
  case atStart => exact ⟨0, by omega, rfl, hA, f 2, hD, g, b1⟩
  case round =>
    obtain ⟨n, hn, rfl, rA, rf, rD, rg, rb⟩ := hrel
    clear c0 c1 c2 cl d0 d1 d2 dl hA hD f g
    by_cases hlt : n < K
    · go_wp2_with fail
      refine (step_any w.heap.size s t _ wr (h.steps n) rA rf).mono ?_
      rintro e w2 ⟨⟨v, rfl⟩, qA, qf, hg⟩
      have qD := rD.kept hg (by simp)
      have qg : ∀ o, w2.frozen? ⟨w.heap.size + 1, o, none⟩ = false := fun o => frozen_kept' (rg o) rD.2.2.2 hg (by simp)
      have qb := rb.grown hg rb.size (fun k e => by cases e; exact Nat.le_refl _)
      clear rA rf rD rg rb hg
      go_wp2
      go_roundw
      case rel => exact ⟨n + 1, by omega, by go_num, qA, qf, qD, qg, qb⟩
      case measure => simp [intOf]; omega
    · obtain rfl : n = K := by omega
      obtain ⟨c0, c1, c2, cl⟩ := id rA
      obtain ⟨d0, d1, d2, dl⟩ := id rD
      have g0 := rg 0
      have g1 := rg 1
      have g2 := rg 2
      clear rA rD rg
      go_wp2_with fail
      refine wp_loop_rounds 1 ?_
      rw [rounds_succ]
      go_wp2
      refine bodyPost_ret (v := .tuple #[.agg #[.int .i64 s, .int .i64 t, .int .i64 (stepsN s t n x : Nat)], .bool true]) (by simp [results, Try.results31, go_sem, d0, d1, d2]) rfl ⟨rfl, ?_⟩
      go_grown
set_option maxRecDepth 100000 in
theorem iJump_back (s t x : Nat) (K : Nat) (w : World) (h : RegN s t x) (hk : K ≤ 5000) (h1 : 1 ≤ K) (ho : t % 2 = 1) :
    Calls Try.prog 31 #[.agg #[.int .i64 s, .int .i64 t, .int .i64 x], .int .i64 (-(K : Int))] w fun e w' => e = .returned (.tuple #[.agg #[.int .i64 s, .int .i64 t, .int .i64 (backsN s t K x : Nat)], .bool true]) ∧ Below w.heap.size w w' := by
  have ht : t < 256 := by have := h.tapLt; have := tw_le s h.hi; omega
  go_enter Try.func31, Try.ntmps31
  go_wp2_with fail
  refine (iRegisterValid_yes s t x _ h).mono ?_
  rintro e w1 ⟨rfl, hb1⟩
  obtain ⟨b1, hA, hD, f, g, hz⟩ := two_after hb1
  obtain ⟨c0, c1, c2, cl⟩ := id hA
  obtain ⟨d0, d1, d2, dl⟩ := id hD
  clear hb1
  go_wp2_with (first | (go_at_call 74; refine (firstTapped_yes _ _ (by omega) ho).mono ?_; rintro e w' ⟨rfl, rfl⟩))
  refine wp_loop_rounds 1 ?_
  rw [rounds_succ]
  go_wp2
  go_loopw [34] (fun i wr => ∃ n : Nat, n ≤ K ∧ i = .int .i64 n ∧ RegAt wr w.heap.size s t (backsN s t n x : Nat) ∧ wr.frozen? ⟨w.heap.size, 2, none⟩ = false ∧ RegAt wr (w.heap.size + 1) 0 0 0 ∧ (∀ o, wr.frozen? ⟨w.heap.size + 1, o, none⟩ = false) ∧ Below w.heap.size w wr) (fun i _ => K - (intOf i).toNat)
  case atStart => exact ⟨0, by omega, rfl, hA, f 2, hD, g, b1⟩
  case round =>
    obtain ⟨n, hn, rfl, rA, rf, rD, rg, rb⟩ := hrel
    clear c0 c1 c2 cl d0 d1 d2 dl hA hD f g
    by_cases hlt : n < K
    · go_wp2_with fail
      refine (back_any w.heap.size s t _ wr (h.backs n) rA rf).mono ?_
      rintro e w2 ⟨⟨v, rfl⟩, qA, qf, hg⟩
      have qD := rD.kept hg (by simp)
      have qg : ∀ o, w2.frozen? ⟨w.heap.size + 1, o, none⟩ = false := fun o => frozen_kept' (rg o) rD.2.2.2 hg (by simp)
      have qb := rb.grown hg rb.size (fun k e => by cases e; exact Nat.le_refl _)
      clear rA rf rD rg rb hg
      go_wp2
      go_roundw
      case rel => exact ⟨n + 1, by omega, by go_num, qA, qf, qD, qg, qb⟩
      case measure => simp [intOf]; omega
    · obtain rfl : n = K := by omega
      obtain ⟨c0, c1, c2, cl⟩ := id rA
      obtain ⟨d0, d1, d2, dl⟩ := id rD
      have g0 := rg 0
      have g1 := rg 1
      have g2 := rg 2
      clear rA rD rg
      go_wp2
      refine bodyPost_ret (v := .tuple #[.agg #[.int .i64 s, .int .i64 t, .int .i64 (backsN s t n x : Nat)], .bool true]) (by simp [results, Try.results31, go_sem, d0, d1, d2]) rfl ⟨rfl, ?_⟩
      go_grown
end Go.Proofs.Ytmmonhagceacjaa
