/- Contracts of the model's steps back and jumps; both sides answer alike. -/
import Derived.Test.YtbllmgdnhjdphacRegStep
namespace Go.Proofs.Ytbllmgdnhjdphac
open Go.RowKit
theorem l1Back_any (s t x : Nat) (w : World) (hr : RegN s t x) :
    Calls Try.prog 75 #[.agg #[.int .i64 s, .int .i64 t, .int .i64 x]] w fun e w' => e = .returned (.agg #[.int .i64 s, .int .i64 t, .int .i64 (backN s t x : Nat)]) ∧ Below w.heap.size w w' := by
  obtain ⟨k, rfl⟩ : ∃ k, s = k + 1 := ⟨s - 1, by have := hr.lo; omega⟩
  obtain ⟨h1, h2, h3, h4, h5⟩ := hr
  have h6 := tw_le (k + 1) h2
  have h7 := tw_pos k
  have h8 := tw_succ k
  obtain ⟨u, y, hu2, hy2, hu, hy, q1, q2, q3, q4⟩ := sback_vals k x h2 h5
  have hp := par_lt (y &&& t)
  have hv : (y : Int) + ((u : Int) + ((par (y &&& t) : Nat) : Int)) % 2 = ((backN (k + 1) t x : Nat) : Int) := by
    unfold backN
    simp only [Nat.add_sub_cancel]
    rw [hu, hy]
    omega
  clear hu hy
  have hk : IntKind.i64.wrap (k : Int) = k := IntWalk.i64_in _ (by omega)
  have hk0 : (0 : Int) ≤ (k : Int) := by omega
  have p1 : (0 : Int) ≤ (x : Int) := by omega
  have p2 : (1 : Int) ≤ ((tw k : Nat) : Int) := by omega
  have e1 := and64 y t (by omega) (by omega)
  have h9 : y &&& t ≤ y := Nat.and_le_left
  go_enter Try.func75, Try.ntmps75
  go_wp2_with fail
  obtain ⟨W, hB, hA, hD, hf, hf', hz, hW⟩ := two_new w 45 ((k : Int) + 1) t x
  rw [hW]
  clear hW
  obtain ⟨c0, c1, c2, cl⟩ := id hA
  go_quiet ((go_at_call 60; exact quiet_same (l1Two_any k _ (by omega))))
  go_wp2_with fail
  obtain ⟨V, hB2, hA2, hD2, hf2, hf2', hz2, hV⟩ : ∃ V, Below w.heap.size w V ∧ RegAt V w.heap.size ((k : Int) + 1) t x ∧ RegAt V (w.heap.size + 1) 0 0 0 ∧ (∀ o, V.frozen? ⟨w.heap.size, o, none⟩ = false) ∧ (∀ o, V.frozen? ⟨w.heap.size + 1, o, none⟩ = false) ∧ V.heap.size = w.heap.size + 2 ∧ W.drewN nq = V := ⟨_, below_drewN hB nq, hA, hD, hf, hf', hz, rfl⟩
  rw [hV]
  clear hV hA hD hf hf' hz c0 c1 c2 cl hB
  obtain ⟨c0, c1, c2, cl⟩ := id hA2
  go_quiet ((go_at_call 60; exact quiet_same (l1Two_any k _ (by omega))))
  go_wp2_with fail
  obtain ⟨W, hB, hA, hD, hf, hf', hz, hW⟩ : ∃ W, Below w.heap.size w W ∧ RegAt W w.heap.size ((k : Int) + 1) t x ∧ RegAt W (w.heap.size + 1) 0 0 0 ∧ (∀ o, W.frozen? ⟨w.heap.size, o, none⟩ = false) ∧ (∀ o, W.frozen? ⟨w.heap.size + 1, o, none⟩ = false) ∧ W.heap.size = w.heap.size + 2 ∧ V.drewN nq = W := ⟨_, below_drewN hB2 nq, hA2, hD2, hf2, hf2', hz2, rfl⟩
  rw [hW]
  clear hW hA2 hD2 hf2 hf2' hz2 c0 c1 c2 cl hB2
  obtain ⟨c0, c1, c2, cl⟩ := id hA
  obtain ⟨d0, d1, d2, dl⟩ := id hD
  have f2 := hf 2
  have g0 := hf' 0
  have g1 := hf' 1
  have g2 := hf' 2
  clear hf hf'
  refine (l1Parity_any _ _ (by omega)).mono ?_
  rintro e w' ⟨rfl, rfl⟩
  go_wp2
  refine bodyPost_ret (v := .agg #[.int .i64 ((k : Int) + 1), .int .i64 t, .int .i64 (backN (k + 1) t x : Nat)]) (by simp [results, Try.results75, go_sem, d0, d1, d2]) rfl ⟨by simp, ?_⟩
  go_grown
theorem l1Jump_forth (s t x : Nat) (K : Nat) (w : World) (h : RegN s t x) (hk : K ≤ 5000) :
    Calls Try.prog 69 #[.agg #[.int .i64 s, .int .i64 t, .int .i64 x], .int .i64 K] w fun e w' => e = .returned (.agg #[.int .i64 s, .int .i64 t, .int .i64 (stepsN s t K x : Nat)]) ∧ Below w.heap.size w w' := by
  go_enter Try.func69, Try.ntmps69
  go_wp2_with fail
  obtain ⟨W, hB, hA, hD, f, g, hz, hW⟩ := two_new w 45 s t x
  rw [hW]
  clear hW hz
  go_loopw [5] (fun i wr => ∃ n : Nat, n ≤ K ∧ i = .int .i64 n ∧ RegAt wr w.heap.size s t (stepsN s t n x : Nat) ∧ (∀ o, wr.frozen? ⟨w.heap.size, o, none⟩ = false) ∧ RegAt wr (w.heap.size + 1) 0 0 0 ∧ (∀ o, wr.frozen? ⟨w.heap.size + 1, o, none⟩ = false) ∧ Below w.heap.size w wr) (fun i _ => K - (intOf i).toNat)
  case atStart => exact ⟨0, by omega, rfl, hA, f, hD, g, hB⟩
  case round =>
    obtain ⟨n, hn, rfl, rA, rf, rD, rg, rb⟩ := hrel
    clear hA hD f g hB
    by_cases hlt : n < K
    · obtain ⟨c0, c1, c2, cl⟩ := id rA
      go_wp2_with fail
      refine (l1Step_any s t _ wr (h.steps n)).mono ?_
      rintro e w2 ⟨rfl, hb⟩
      have qA := rA.below hb cl
      have qD := rD.below hb rD.2.2.2
      have qf : ∀ o, w2.frozen? ⟨w.heap.size, o, none⟩ = false := fun o => (hb.frozen (p := ⟨w.heap.size, o, none⟩) cl).trans (rf o)
      have qg : ∀ o, w2.frozen? ⟨w.heap.size + 1, o, none⟩ = false := fun o => (hb.frozen (p := ⟨w.heap.size + 1, o, none⟩) rD.2.2.2).trans (rg o)
      have qb := below_then rb (Nat.le_refl _) hb
      obtain ⟨m0, m1, m2, ml⟩ := id qA
      have f0 := qf 0
      have f1 := qf 1
      have f2 := qf 2
      obtain ⟨sA, sF, sG⟩ := qA.set3 s t (stepsN s t (n + 1) x : Nat)
      have sD := qD.kept sG (by simp)
      have sB := qb.grown sG qb.size (fun k e => by cases e; exact Nat.le_refl _)
      clear rA rf rD rg rb hb c0 c1 c2 cl
      have HF : Hid (∀ o, w2.frozen? ⟨w.heap.size, o, none⟩ = false) := qf
      have HG : Hid (∀ o, w2.frozen? ⟨w.heap.size + 1, o, none⟩ = false) := qg
      have HS := Lib.hid sF
      clear qf qg sF
      go_wp2
      go_roundw
      case rel => exact ⟨n + 1, by omega, by go_num, sA, fun o => (HS.out _).trans (HF.out o), sD, fun o => (HS.out _).trans (HG.out o), sB⟩
      case measure => simp [intOf]; omega
    · obtain rfl : n = K := by omega
      obtain ⟨c0, c1, c2, cl⟩ := id rA
      obtain ⟨d0, d1, d2, dl⟩ := id rD
      have g0 := rg 0
      have g1 := rg 1
      have g2 := rg 2
      clear rA rD rg rf
      go_wp2_with fail
      refine wp_loop_rounds 1 ?_
      rw [rounds_succ]
      go_wp2
      refine bodyPost_ret (v := .agg #[.int .i64 s, .int .i64 t, .int .i64 (stepsN s t n x : Nat)]) (by simp [results, Try.results69, go_sem, d0, d1, d2]) rfl ⟨rfl, ?_⟩
      go_grown
theorem l1Jump_back (s t x : Nat) (K : Nat) (w : World) (h : RegN s t x) (hk : K ≤ 5000) (h1 : 1 ≤ K) :
    Calls Try.prog 69 #[.agg #[.int .i64 s, .int .i64 t, .int .i64 x], .int .i64 (-(K : Int))] w fun e w' => e = .returned (.agg #[.int .i64 s, .int .i64 t, .int .i64 (backsN s t K x : Nat)]) ∧ Below w.heap.size w w' := by
  go_enter Try.func69, Try.ntmps69
  go_wp2_with fail
  obtain ⟨W, hB, hA, hD, f, g, hz, hW⟩ := two_new w 45 s t x
  rw [hW]
  clear hW hz
  refine wp_loop_rounds 1 ?_
  rw [rounds_succ]
  go_wp2_with fail
  go_loopw [6] (fun i wr => ∃ n : Nat, n ≤ K ∧ i = .int .i64 n ∧ RegAt wr w.heap.size s t (backsN s t n x : Nat) ∧ (∀ o, wr.frozen? ⟨w.heap.size, o, none⟩ = false) ∧ RegAt wr (w.heap.size + 1) 0 0 0 ∧ (∀ o, wr.frozen? ⟨w.heap.size + 1, o, none⟩ = false) ∧ Below w.heap.size w wr) (fun i _ => K - (intOf i).toNat)
  case atStart => exact ⟨0, by omega, rfl, hA, f, hD, g, hB⟩
  case round =>
    obtain ⟨n, hn, rfl, rA, rf, rD, rg, rb⟩ := hrel
    clear hA hD f g hB
    by_cases hlt : n < K
    · obtain ⟨c0, c1, c2, cl⟩ := id rA
      go_wp2_with fail
      refine (l1Back_any s t _ wr (h.backs n)).mono ?_
      rintro e w2 ⟨rfl, hb⟩
      have qA := rA.below hb cl
      have qD := rD.below hb rD.2.2.2
      have qf : ∀ o, w2.frozen? ⟨w.heap.size, o, none⟩ = false := fun o => (hb.frozen (p := ⟨w.heap.size, o, none⟩) cl).trans (rf o)
      have qg : ∀ o, w2.frozen? ⟨w.heap.size + 1, o, none⟩ = false := fun o => (hb.frozen (p := ⟨w.heap.size + 1, o, none⟩) rD.2.2.2).trans (rg o)
      have qb := below_then rb (Nat.le_refl _) hb
      obtain ⟨m0, m1, m2, ml⟩ := id qA
      have f0 := qf 0
      have f1 := qf 1
      have f2 := qf 2
      obtain ⟨sA, sF, sG⟩ := qA.set3 s t (backsN s t (n + 1) x : Nat)
      have sD := qD.kept sG (by simp)
      have sB := qb.grown sG qb.size (fun k e => by cases e; exact Nat.le_refl _)
      clear rA rf rD rg rb hb c0 c1 c2 cl
      have HF : Hid (∀ o, w2.frozen? ⟨w.heap.size, o, none⟩ = false) := qf
      have HG : Hid (∀ o, w2.frozen? ⟨w.heap.size + 1, o, none⟩ = false) := qg
      have HS := Lib.hid sF
      clear qf qg sF
      go_wp2
      go_roundw
      case rel => exact ⟨n + 1, by omega, by go_num, sA, fun o => (HS.out _).trans (HF.out o), sD, fun o => (HS.out _).trans (HG.out o), sB⟩
      case measure => simp [intOf]; omega
    · obtain rfl : n = K := by omega
      obtain ⟨c0, c1, c2, cl⟩ := id rA
      obtain ⟨d0, d1, d2, dl⟩ := id rD
      have g0 := rg 0
      have g1 := rg 1
      have g2 := rg 2
      clear rA rD rg rf
      go_wp2
      refine bodyPost_ret (v := .agg #[.int .i64 s, .int .i64 t, .int .i64 (backsN s t n x : Nat)]) (by simp [results, Try.results69, go_sem, d0, d1, d2]) rfl ⟨rfl, ?_⟩
      go_grown
end Go.Proofs.Ytbllmgdnhjdphac
