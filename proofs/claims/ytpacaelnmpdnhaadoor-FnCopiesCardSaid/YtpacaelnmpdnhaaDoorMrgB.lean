/- Contracts of steps: StepRegister, BackRegister, JumpRegister, of the program and of its model. Contracts of the model's steps back and jumps; both sides answer alike. HopSequence of both sides. -/
import Derived.Test.YtpacaelnmpdnhaaDoorRegBase
import Derived.Test.YtpacaelnmpdnhaaDoorHop1
namespace Go.Proofs.YtpacaelnmpdnhaaDoor
open Go.RowKit

theorem sRegisterValid_yes (s t x : Nat) (w : World) (h : RegN s t x) :
    Calls Tryd.prog 73 #[.agg #[.int .i64 s, .int .i64 t, .int .i64 x]] w fun e w' => e = .returned (.bool true) ∧ Below w.heap.size w w' := by
  rw [← h.valid]; exact sRegisterValid_any _ _ _ w
theorem sRegisterValid_no (S T X : Int) (w : World) (h : regB S T X = false) :
    Calls Tryd.prog 73 #[.agg #[.int .i64 S, .int .i64 T, .int .i64 X]] w fun e w' => e = .returned (.bool false) ∧ Below w.heap.size w w' := by
  rw [← h]; exact sRegisterValid_any _ _ _ w
/-- Behind a call, the two blocks are as they were. -/
theorem two_after {w W1 : World} {t : TypeId} {S T X : Int}
    (hb : Below ((w.alloc (.cells #[.int .i64 S, .int .i64 T, .int .i64 X] t)).alloc (.cells #[.int .i64 0, .int .i64 0, .int .i64 0] t)).heap.size ((w.alloc (.cells #[.int .i64 S, .int .i64 T, .int .i64 X] t)).alloc (.cells #[.int .i64 0, .int .i64 0, .int .i64 0] t)) W1) :
    Below w.heap.size w W1 ∧ RegAt W1 w.heap.size S T X ∧ RegAt W1 (w.heap.size + 1) 0 0 0 ∧ (∀ o, W1.frozen? ⟨w.heap.size, o, none⟩ = false) ∧ (∀ o, W1.frozen? ⟨w.heap.size + 1, o, none⟩ = false) ∧ w.heap.size + 2 ≤ W1.heap.size := by
  obtain ⟨W, h1, h2, h3, h4, h5, h6, h7⟩ := two_new w t S T X
  rw [h7] at hb
  refine ⟨below_then h1 (Nat.le_refl _) hb, h2.below hb h2.2.2.2, h3.below hb h3.2.2.2, ?_, ?_, ?_⟩
  · intro o; exact (hb.frozen (p := ⟨w.heap.size, o, none⟩) (by show w.heap.size < _; omega)).trans (h4 o)
  · intro o; exact (hb.frozen (p := ⟨w.heap.size + 1, o, none⟩) (by show w.heap.size + 1 < _; omega)).trans (h5 o)
  · have := hb.size; omega
end Go.Proofs.YtpacaelnmpdnhaaDoor
namespace Go.Proofs.YtpacaelnmpdnhaaDoor
open Go.RowKit
theorem l1Back_any (s t x : Nat) (w : World) (hr : RegN s t x) :
    Calls Tryd.prog 89 #[.agg #[.int .i64 s, .int .i64 t, .int .i64 x]] w fun e w' => e = .returned (.agg #[.int .i64 s, .int .i64 t, .int .i64 (backN s t x : Nat)]) ∧ Below w.heap.size w w' := by
  obtain ⟨k, rfl⟩ : ∃ k, s = k + 1 := ⟨s - 1, by have := hr.lo; omega⟩
  obtain ⟨h1, h2, h3, h4, h5⟩ := hr
  have h6 := tw_le (k + 1) h2
  have h7 := tw_pos k
  have h8 := tw_succ k
  obtain ⟨u, y, hu2, hy2, hu, hy, q1, q2, q3, q4⟩ := sback_vals k x h2 h5
  have hp := par_lt (y &&& t)
  have hv : (y : Int) + ((u : Int) + ((par (y &&& t) : Nat) : Int)) % 2 = ((backN (k + 1) t x : Nat) : Int) := by
    unfold backN
    simp only [Nat.add_sub_cancel]
    rw [hu, hy]
    omega
  clear hu hy
  have hk : IntKind.i64.wrap (k : Int) = k := IntWalk.i64_in _ (by omega)
  have hk0 : (0 : Int) ≤ (k : Int) := by omega
  have p1 : (0 : Int) ≤ (x : Int) := by omega
  have p2 : (1 : Int) ≤ ((tw k : Nat) : Int) := by omega
  have e1 := and64 y t (by omega) (by omega)
  have h9 : y &&& t ≤ y := Nat.and_le_left
  go_enter Tryd.func89, Tryd.ntmps89
  go_wp2_with fail
  obtain ⟨W, hB, hA, hD, hf, hf', hz, hW⟩ := two_new w 78 ((k : Int) + 1) t x
  rw [hW]
  clear hW
  obtain ⟨c0, c1, c2, cl⟩ := id hA
  go_quiet ((go_at_call 75; exact quiet_same (l1Two_any k _ (by omega))))
  go_wp2_with fail
  obtain ⟨V, hB2, hA2, hD2, hf2, hf2', hz2, hV⟩ : ∃ V, Below w.heap.size w V ∧ RegAt V w.heap.size ((k : Int) + 1) t x ∧ RegAt V (w.heap.size + 1) 0 0 0 ∧ (∀ o, V.frozen? ⟨w.heap.size, o, none⟩ = false) ∧ (∀ o, V.frozen? ⟨w.heap.size + 1, o, none⟩ = false) ∧ V.heap.size = w.heap.size + 2 ∧ W.drewN nq = V := ⟨_, below_drewN hB nq, hA, hD, hf, hf', hz, rfl⟩
  rw [hV]
  clear hV hA hD hf hf' hz c0 c1 c2 cl hB
  obtain ⟨c0, c1, c2, cl⟩ := id hA2
  go_quiet ((go_at_call 75; exact quiet_same (l1Two_any k _ (by omega))))
  go_wp2_with fail
  obtain ⟨W, hB, hA, hD, hf, hf', hz, hW⟩ : ∃ W, Below w.heap.size w W ∧ RegAt W w.heap.size ((k : Int) + 1) t x ∧ RegAt W (w.heap.size + 1) 0 0 0 ∧ (∀ o, W.frozen? ⟨w.heap.size, o, none⟩ = false) ∧ (∀ o, W.frozen? ⟨w.heap.size + 1, o, none⟩ = false) ∧ W.heap.size = w.heap.size + 2 ∧ V.drewN nq = W := ⟨_, below_drewN hB2 nq, hA2, hD2, hf2, hf2', hz2, rfl⟩
  rw [hW]
  clear hW hA2 hD2 hf2 hf2' hz2 c0 c1 c2 cl hB2
  obtain ⟨c0, c1, c2, cl⟩ := id hA
  obtain ⟨d0, d1, d2, dl⟩ := id hD
  have f2 := hf 2
  have g0 := hf' 0
  have g1 := hf' 1
  have g2 := hf' 2
  clear hf hf'
  refine (l1Parity_any _ _ (by omega)).mono ?_
  rintro e w' ⟨rfl, rfl⟩
  go_wp2
  refine bodyPost_ret (v := .agg #[.int .i64 ((k : Int) + 1), .int .i64 t, .int .i64 (backN (k + 1) t x : Nat)]) (by simp [results, Tryd.results89, go_sem, d0, d1, d2]) rfl ⟨by simp, ?_⟩
  go_grown
theorem l1Jump_forth (s t x : Nat) (K : Nat) (w : World) (h : RegN s t x) (hk : K ≤ 5000) :
    Calls Tryd.prog 74 #[.agg #[.int .i64 s, .int .i64 t, .int .i64 x], .int .i64 K] w fun e w' => e = .returned (.agg #[.int .i64 s, .int .i64 t, .int .i64 (stepsN s t K x : Nat)]) ∧ Below w.heap.size w w' := by
  go_enter Tryd.func74, Tryd.ntmps74
  go_wp2_with fail
  obtain ⟨W, hB, hA, hD, f, g, hz, hW⟩ := two_new w 78 s t x
  rw [hW]
  clear hW hz
  go_loopw [5] (fun i wr => ∃ n : Nat, n ≤ K ∧ i = .int .i64 n ∧ RegAt wr w.heap.size s t (stepsN s t n x : Nat) ∧ (∀ o, wr.frozen? ⟨w.heap.size, o, none⟩ = false) ∧ RegAt wr (w.heap.size + 1) 0 0 0 ∧ (∀ o, wr.frozen? ⟨w.heap.size + 1, o, none⟩ = false) ∧ Below w.heap.size w wr) (fun i _ => K - (intOf i).toNat)
  case atStart => exact ⟨0, by omega, rfl, hA, f, hD, g, hB⟩
  case round =>
    obtain ⟨n, hn, rfl, rA, rf, rD, rg, rb⟩ := hrel
    clear hA hD f g hB
    by_cases hlt : n < K
    · obtain ⟨c0, c1, c2, cl⟩ := id rA
      go_wp2_with fail
      refine (l1Step_any s t _ wr (h.steps n)).mono ?_
      rintro e w2 ⟨rfl, hb⟩
      have qA := rA.below hb cl
      have qD := rD.below hb rD.2.2.2
      have qf : ∀ o, w2.frozen? ⟨w.heap.size, o, none⟩ = false := fun o => (hb.frozen (p := ⟨w.heap.size, o, none⟩) cl).trans (rf o)
      have qg : ∀ o, w2.frozen? ⟨w.heap.size + 1, o, none⟩ = false := fun o => (hb.frozen (p := ⟨w.heap.size + 1, o, none⟩) rD.2.2.2).trans (rg o)
      have qb := below_then rb (Nat.le_refl _) hb
      obtain ⟨m0, m1, m2, ml⟩ := id qA
      have f0 := qf 0
      have f1 := qf 1
      have f2 := qf 2
      obtain ⟨sA, sF, sG⟩ := qA.set3 s t (stepsN s t (n + 1) x : Nat)
      have sD := qD.kept sG (by simp)
      have sB := qb.grown sG qb.size (fun k e => by cases e; exact Nat.le_refl _)
      clear rA rf rD rg rb hb c0 c1 c2 cl
      have HF : Hid (∀ o, w2.frozen? ⟨w.heap.size, o, none⟩ = false) := qf
      have HG : Hid (∀ o, w2.frozen? ⟨w.heap.size + 1, o, none⟩ = false) := qg
      have HS := Lib.hid sF
      clear qf qg sF
      go_wp2
      go_roundw
      case rel => exact ⟨n + 1, by omega, by go_num, sA, fun o => (HS.out _).trans (HF.out o), sD, fun o => (HS.out _).trans (HG.out o), sB⟩
      case measure => simp [intOf]; omega
    · obtain rfl : n = K := by omega
      obtain ⟨c0, c1, c2, cl⟩ := id rA
      obtain ⟨d0, d1, d2, dl⟩ := id rD
      have g0 := rg 0
      have g1 := rg 1
      have g2 := rg 2
      clear rA rD rg rf
      go_wp2_with fail
      refine wp_loop_rounds 1 ?_
      rw [rounds_succ]
      go_wp2
      refine bodyPost_ret (v := .agg #[.int .i64 s, .int .i64 t, .int .i64 (stepsN s t n x : Nat)]) (by simp [results, Tryd.results74, go_sem, d0, d1, d2]) rfl ⟨rfl, ?_⟩
      go_grown
theorem l1Jump_back (s t x : Nat) (K : Nat) (w : World) (h : RegN s t x) (hk : K ≤ 5000) (h1 : 1 ≤ K) :
    Calls Tryd.prog 74 #[.agg #[.int .i64 s, .int .i64 t, .int .i64 x], .int .i64 (-(K : Int))] w fun e w' => e = .returned (.agg #[.int .i64 s, .int .i64 t, .int .i64 (backsN s t K x : Nat)]) ∧ Below w.heap.size w w' := by
  go_enter Tryd.func74, Tryd.ntmps74
  go_wp2_with fail
  obtain ⟨W, hB, hA, hD, f, g, hz, hW⟩ := two_new w 78 s t x
  rw [hW]
  clear hW hz
  refine wp_loop_rounds 1 ?_
  rw [rounds_succ]
  go_wp2_with fail
  go_loopw [6] (fun i wr => ∃ n : Nat, n ≤ K ∧ i = .int .i64 n ∧ RegAt wr w.heap.size s t (backsN s t n x : Nat) ∧ (∀ o, wr.frozen? ⟨w.heap.size, o, none⟩ = false) ∧ RegAt wr (w.heap.size + 1) 0 0 0 ∧ (∀ o, wr.frozen? ⟨w.heap.size + 1, o, none⟩ = false) ∧ Below w.heap.size w wr) (fun i _ => K - (intOf i).toNat)
  case atStart => exact ⟨0, by omega, rfl, hA, f, hD, g, hB⟩
  case round =>
    obtain ⟨n, hn, rfl, rA, rf, rD, rg, rb⟩ := hrel
    clear hA hD f g hB
    by_cases hlt : n < K
    · obtain ⟨c0, c1, c2, cl⟩ := id rA
      go_wp2_with fail
      refine (l1Back_any s t _ wr (h.backs n)).mono ?_
      rintro e w2 ⟨rfl, hb⟩
      have qA := rA.below hb cl
      have qD := rD.below hb rD.2.2.2
      have qf : ∀ o, w2.frozen? ⟨w.heap.size, o, none⟩ = false := fun o => (hb.frozen (p := ⟨w.heap.size, o, none⟩) cl).trans (rf o)
      have qg : ∀ o, w2.frozen? ⟨w.heap.size + 1, o, none⟩ = false := fun o => (hb.frozen (p := ⟨w.heap.size + 1, o, none⟩) rD.2.2.2).trans (rg o)
      have qb := below_then rb (Nat.le_refl _) hb
      obtain ⟨m0, m1, m2, ml⟩ := id qA
      have f0 := qf 0
      have f1 := qf 1
      have f2 := qf 2
      obtain ⟨sA, sF, sG⟩ := qA.set3 s t (backsN s t (n + 1) x : Nat)
      have sD := qD.kept sG (by simp)
      have sB := qb.grown sG qb.size (fun k e => by cases e; exact Nat.le_refl _)
      clear rA rf rD rg rb hb c0 c1 c2 cl
      have HF : Hid (∀ o, w2.frozen? ⟨w.heap.size, o, none⟩ = false) := qf
      have HG : Hid (∀ o, w2.frozen? ⟨w.heap.size + 1, o, none⟩ = false) := qg
      have HS := Lib.hid sF
      clear qf qg sF
      go_wp2
      go_roundw
      case rel => exact ⟨n + 1, by omega, by go_num, sA, fun o => (HS.out _).trans (HF.out o), sD, fun o => (HS.out _).trans (HG.out o), sB⟩
      case measure => simp [intOf]; omega
    · obtain rfl : n = K := by omega
      obtain ⟨c0, c1, c2, cl⟩ := id rA
      obtain ⟨d0, d1, d2, dl⟩ := id rD
      have g0 := rg 0
      have g1 := rg 1
      have g2 := rg 2
      clear rA rD rg rf
      go_wp2
      refine bodyPost_ret (v := .agg #[.int .i64 s, .int .i64 t, .int .i64 (backsN s t n x : Nat)]) (by simp [results, Tryd.results74, go_sem, d0, d1, d2]) rfl ⟨rfl, ?_⟩
      go_grown
end Go.Proofs.YtpacaelnmpdnhaaDoor
namespace Go.Proofs.YtpacaelnmpdnhaaDoor
open Go.RowKit
set_option linter.unusedVariables false
set_option maxRecDepth 100000
def hsB (S T X C K : Int) : Bool := regB S T X && (chB C && cntB K)
def hsN (S T X C K : Int) : Nat := if hsB S T X C K then K.toNat else 0
def hsF (S T X C : Int) (i : Nat) : Int := ((stepsN S.toNat T.toNat (i * S.toNat) X.toNat % C.toNat : Nat) : Int)
theorem hsB_iff (S T X C K : Int) : hsB S T X C K = true ↔ regB S T X = true ∧ (1 ≤ C ∧ C ≤ 16) ∧ 0 ≤ K ∧ K ≤ 300 := by
  unfold hsB
  simp only [Bool.and_eq_true, chB_iff, cntB_iff]
theorem hs_no {S T X C K : Int} (h : hsB S T X C K = false) : hsN S T X C K = 0 := by unfold hsN; rw [h]; rfl
theorem hsN_le6 (S T X C K : Int) : hsN S T X C K ≤ 1000000 := by
  unfold hsN
  split
  · rename_i h
    have := (hsB_iff _ _ _ _ _).1 h
    omega
  · omega
theorem hs_next (s t x i : Nat) : stepsN s t ((i + 1) * s) x = stepsN s t s (stepsN s t (i * s) x) := by
  rw [Nat.add_mul, Nat.one_mul, Nat.add_comm, steps_add]
theorem hs_at (s t x c i : Nat) : hsF s t x c i = ((stepsN s t (i * s) x % c : Nat) : Int) := rfl
theorem steps_lt {s t x : Nat} (h : RegN s t x) (n : Nat) : stepsN s t n x < tw s := (h.steps n).lt
set_option maxHeartbeats 1600000 in
theorem sSeq_any (S T X C K : Int) (w : World) :
    Calls Tryd.prog 63 #[.agg #[.int .i64 S, .int .i64 T, .int .i64 X], .int .i64 C, .int .i64 K] w fun e w' => ∃ u, e = .returned (.tuple #[u, .bool (hsB S T X C K)]) ∧ OF w' w.heap.size u (hsN S T X C K) (hsF S T X C) ∧ Below w.heap.size w w' := by
  have hch := fun w => sCh_any C w
  have hcn : ∀ w, Calls Tryd.prog 32 #[.int .i64 K, .int .i64 0, .int .i64 300] w fun e w' => e = .returned (.bool (cntB K)) ∧ w = w' := fun w => l1In_any K 0 300 w
  have hno := @hs_no S T X C K
  have hB : hsB S T X C K = (regB S T X && (chB C && cntB K)) := rfl
  have s1 : (w.alloc (.cells #[.int .i64 S, .int .i64 T, .int .i64 X] 78)).heap.size = w.heap.size + 1 := World.size_alloc _ _
  have B0 := (Below.refl w.heap.size w).alloc (Nat.le_refl _) (.cells #[.int .i64 S, .int .i64 T, .int .i64 X] 78)
  have b1 : Below (w.heap.size + 1) (w.alloc (.cells #[.int .i64 S, .int .i64 T, .int .i64 X] 78)) ((w.alloc (.cells #[.int .i64 S, .int .i64 T, .int .i64 X] 78)).alloc (.cells #[] 3)) := by
    rw [← s1]; exact (Below.refl _ _).alloc (Nat.le_refl _) _
  have A1 := (RegAt.new w 78 S T X).below b1 (Nat.lt_succ_self _)
  have F1 : ∀ o, ((w.alloc (.cells #[.int .i64 S, .int .i64 T, .int .i64 X] 78)).alloc (.cells #[] 3)).frozen? ⟨w.heap.size, o, none⟩ = false := fun o => (b1.frozen (p := ⟨w.heap.size, o, none⟩) (Nat.lt_succ_self _)).trans (by simp)
  have B1 := B0.alloc B0.size (.cells #[] 3)
  have O1 := OF.empty0 (w.alloc (.cells #[.int .i64 S, .int .i64 T, .int .i64 X] 78)) (hsF S T X C)
  rw [s1] at O1
  have HW1 := Lib.hid s1
  obtain ⟨W, hW⟩ : ∃ W, (w.alloc (.cells #[.int .i64 S, .int .i64 T, .int .i64 X] 78)).alloc (.cells #[] 3) = W := ⟨_, rfl⟩
  rw [hW] at A1 F1 B1 O1
  have HW := Lib.hid hW
  have HF1 := Lib.hid F1
  clear b1 B0 F1 hW s1
  cases hR : regB S T X with
  | false =>
    rw [hR, Bool.false_and] at hB
    rw [hno hB, hB]
    have HV := Lib.hid (fun w => sRegisterValid_no S T X w hR)
    obtain ⟨a0, a1, a2, al⟩ := A1
    clear hch hcn hno hR hB
    go_enter Tryd.func63, Tryd.ntmps63
    go_wp2_with fail
    try rw [HW1.out]
    rw [HW.out]
    refine (HV.out _).mono ?_
    rintro e w1 ⟨rfl, b1⟩
    have b2 := below_then B1 (Nat.le_refl _) b1
    have O2 := (O1.below b1).mono (Nat.le_succ _)
    clear O1
    go_wp2
    go_ret2
    exact ⟨_, rfl, O2, b2⟩
  | true =>
    obtain ⟨s, t, x, rfl, rfl, rfl, hr⟩ := RegN.of hR
    have HV := Lib.hid (fun w => sRegisterValid_yes s t x w hr)
    rw [hR, Bool.true_and] at hB
    cases hC : chB C with
    | false =>
      rw [hC, Bool.false_and] at hB
      rw [hno hB, hB]
      rw [hC] at hch
      have HCH := Lib.hid hch
      obtain ⟨a0, a1, a2, al⟩ := A1
      clear hch hcn hno hR hB hC
      go_enter Tryd.func63, Tryd.ntmps63
      go_wp2_with fail
      try rw [HW1.out]
      rw [HW.out]
      refine (HV.out _).mono ?_
      rintro e w1 ⟨rfl, b1⟩
      have b2 := below_then B1 (Nat.le_refl _) b1
      have O2 := (O1.below b1).mono (Nat.le_succ _)
      clear O1
      go_wp2_with fail
      refine (HCH.out _).mono ?_
      rintro e w' ⟨rfl, rfl⟩
      go_wp2
      go_ret2
      exact ⟨_, rfl, O2, b2⟩
    | true =>
      rw [hC] at hch
      have HCH := Lib.hid hch
      cases hK : cntB K with
      | false =>
        rw [hC, hK, Bool.and_false] at hB
        rw [hno hB, hB]
        rw [hK] at hcn
        have HCN := Lib.hid hcn
        obtain ⟨a0, a1, a2, al⟩ := A1
        clear hch hcn hno hR hB hC hK
        go_enter Tryd.func63, Tryd.ntmps63
        go_wp2_with fail
        try rw [HW1.out]
        rw [HW.out]
        refine (HV.out _).mono ?_
        rintro e w1 ⟨rfl, b1⟩
        have b2 := below_then B1 (Nat.le_refl _) b1
        have O2 := (O1.below b1).mono (Nat.le_succ _)
        clear O1
        go_wp2_with fail
        refine (HCH.out _).mono ?_
        rintro e w' ⟨rfl, rfl⟩
        go_wp2_with fail
        refine (HCN.out _).mono ?_
        rintro e w' ⟨rfl, rfl⟩
        go_wp2
        go_ret2
        exact ⟨_, rfl, O2, b2⟩
      | true =>
        rw [hC, hK] at hB
        rw [hK] at hcn
        have HCN := Lib.hid hcn
        obtain ⟨c1, c2⟩ := (chB_iff C).1 hC
        obtain ⟨k1, k2⟩ := (cntB_iff K).1 hK
        obtain ⟨c, rfl⟩ : ∃ c : Nat, C = c := ⟨C.toNat, by omega⟩
        obtain ⟨k, rfl⟩ : ∃ k : Nat, K = k := ⟨K.toNat, by omega⟩
        have hN : hsN s t x c k = k := by unfold hsN; rw [hB]; rfl
        rw [hN, hB]
        obtain ⟨a0, a1, a2, al⟩ := id A1
        have HA := Lib.hid A1
        have HLT := Lib.hid (fun n => steps_lt hr n)
        have HTW := Lib.hid (tw_le s hr.hi)
        have HSS := Lib.hid (fun n => hr.steps n)
        have HNX := Lib.hid (fun i => hs_next s t x i)
        have HAT := Lib.hid (fun i => hs_at s t x c i)
        have hs8 := hr.hi
        have HZ0 : Hid (stepsN s t (0 * s) x = x) := Lib.hid (by rw [Nat.zero_mul]; rfl)
        have HJ := Lib.hid (fun X w h => l1Jump_forth s t X s w h (by omega))
        have l0 : ¬ ((c : Int) = 0) := by omega
        have l1 : ((c : Int) == 0) = false := by simp; omega
        have hc1 : 1 ≤ c := by omega
        have hc2 : c ≤ 16 := by omega
        have hk3 : k ≤ 300 := by omega
        clear hch hcn hno hR hB hC hK hN A1 c1 c2 k1 k2
        go_enter Tryd.func63, Tryd.ntmps63
        go_wp2_with fail
        try rw [HW1.out]
        rw [HW.out]
        refine (HV.out _).mono ?_
        rintro e w1 ⟨rfl, b1⟩
        have b2 := below_then B1 (Nat.le_refl _) b1
        have A2 := HA.out.below b1 al
        have O2 := O1.below b1
        have F2 : Hid (∀ o, w1.frozen? ⟨w.heap.size, o, none⟩ = false) := Lib.hid (fun o => (b1.frozen (p := ⟨w.heap.size, o, none⟩) al).trans (HF1.out o))
        clear a0 a1 a2 al b1 HA B1 O1 HV
        go_wp2_with fail
        refine (HCH.out _).mono ?_
        rintro e w' ⟨rfl, rfl⟩
        go_wp2_with fail
        refine (HCN.out _).mono ?_
        rintro e w' ⟨rfl, rfl⟩
        go_wp2
        go_loopw [8, 9] (fun o q wr => ∃ i : Nat, i ≤ k ∧ q = .int .i64 i ∧ OF wr (w.heap.size + 1) o i (hsF s t x c) ∧ RegAt wr w.heap.size s t (stepsN s t (i * s) x : Nat) ∧ Hid (∀ o, wr.frozen? ⟨w.heap.size, o, none⟩ = false) ∧ Below w.heap.size w wr) (fun _ q _ => k - (intOf q).toNat)
        case atStart => exact ⟨0, Nat.zero_le _, rfl, O2, by rw [HZ0.out]; exact A2, F2, b2⟩
        case round =>
          obtain ⟨i, hi, rfl, rO, rA, rf, rb⟩ := hrel
          clear O2 A2 F2 b2
          by_cases hlt : i < k
          · obtain ⟨r1, r2, r3, rl⟩ := id rA
            have hlt2 := HLT.out (i * s)
            have hv := HAT.out i
            have hnx := HNX.out i
            have hss := HSS.out (i * s)
            obtain ⟨Y, hY⟩ : ∃ Y, stepsN s t (i * s) x = Y := ⟨_, rfl⟩
            rw [hY] at r3 hlt2 hv hnx hss rA
            have htw := HTW.out
            have t3 := hop_mod Y c
            obtain ⟨R, hR⟩ : ∃ R, Y % c = R := ⟨_, rfl⟩
            have hRc : R < c := by rw [← hR]; exact Nat.mod_lt _ hc1
            rw [hR] at t3 hv
            have bs := rb.size
            have HV := Lib.hid hv
            have HJJ := Lib.hid (fun w => HJ.out Y w hss)
            have HNX2 := Lib.hid hnx
            obtain ⟨Z, hZ⟩ : ∃ Z, stepsN s t s Y = Z := ⟨_, rfl⟩
            rw [hZ] at HJJ HNX2
            clear hv hR hY hss hnx hZ
            go_wp2_with (at_builtin; refine wpList_append_int rfl (.tmp 30) (.tmp 35) rfl (w.heap.size + 1) _ i (hsF s t x c) rfl (rO.alloc _) wr.heap.size 1 (R : Int) rfl (by simp) (by omega) (by simp; omega) ?_; intro v' w3 O3 g3; have c3 : Below w.heap.size w w3 := (rb.alloc bs _).grown g3 (by simp; omega) (fun q hq => by have := (rO.lt q hq).1; omega); have O4 := OF.snocH O3 HV.out.symm; have hne : some w.heap.size ≠ Value.ownBlock _ := fun e => (by have := (rO.lt _ e.symm).1; omega); have A4 : RegAt w3 w.heap.size s t (Y : Nat) := (rA.kept (World.grownBy_alloc wr (.cells #[.int .i64 (R : Int)] 3) none) (by simp)).kept g3 hne; have F4 : Hid (∀ o, w3.frozen? ⟨w.heap.size, o, none⟩ = false) := Lib.hid (fun o => frozen_kept' (frozen_kept' (rf.out o) rl (World.grownBy_alloc wr (.cells #[.int .i64 (R : Int)] 3) none) (by simp)) (by simp; omega) g3 hne); obtain ⟨e1, e2, e3, el⟩ := id A4; clear rO g3 rb O3 rA rf hne r1 r2 r3)
            refine (HJJ.out _).mono ?_
            rintro e w4 ⟨rfl, hb4⟩
            have A5 := A4.below hb4 el
            have O5 := O4.below hb4
            have F5 : Hid (∀ o, w4.frozen? ⟨w.heap.size, o, none⟩ = false) := Lib.hid (fun o => (hb4.frozen (p := ⟨w.heap.size, o, none⟩) el).trans (F4.out o))
            have c5 := below_then c3 (Nat.le_refl _) hb4
            clear A4 O4 F4 c3 hb4 e1 e2 e3 el
            obtain ⟨m0, m1, m2, ml⟩ := id A5
            have f0 := F5.out 0
            have f1 := F5.out 1
            have f2 := F5.out 2
            obtain ⟨sA, sF, sG⟩ := A5.set3 s t (Z : Nat)
            have sO := O5.kept sG (by
              cases h0 : Value.ownBlock v' with
              | none => exact .inl rfl
              | some q => right; intro e; injection e with e; have := (O5.lt q h0).1; omega)
            have sB := c5.grown sG c5.size (fun k e => by cases e; exact Nat.le_refl _)
            have HSF := Lib.hid sF
            clear sF A5 O5 c5 sG
            go_wp2
            go_roundw
            case rel => exact ⟨i + 1, by omega, by go_num, sO, by rw [HNX2.out]; exact sA, Lib.hid (fun o => (HSF.out _).trans (F5.out o)), sB⟩
            case measure => simp [intOf]; omega
          · obtain rfl : i = k := by omega
            clear rA rf
            go_wp2
            go_ret2
            exact ⟨_, rfl, rO.mono (Nat.le_succ _), rb⟩
end Go.Proofs.YtpacaelnmpdnhaaDoor
