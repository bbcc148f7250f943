/- The walk of the law FnJammed. -/
import Derived.Test.YtbllmgdnhjdphacDrawHop2
import Derived.Test.YtbllmgdnhjdphacHopLaw
import Derived.Test.YtbllmgdnhjdphacSsHas
namespace Go.Proofs.Ytbllmgdnhjdphac
open Go.RowKit
set_option linter.unusedVariables false
set_option maxHeartbeats 3200000 in
set_option maxRecDepth 100000 in
theorem fnJammed_walk (a0 : Option Addr) (len0 cap0 : Nat) (z0 : List Int) (w : World) (w0 : IsBytes w a0 len0 cap0 z0) :
    Calls Try.prog 5 #[.slice a0 len0 cap0] w fun e w' => e = .returned (.bool true) ∧ Below w.heap.size w w' := by
  by_cases hl0 : 1048576 < len0
  · go_enter Try.func5, Try.ntmps5
    go_wp2
    go_ret
    exact ⟨rfl, Below.refl _ _⟩
  go_enter Try.func5, Try.ntmps5
  go_wp2_with fail
  refine (drawJammed_any a0 len0 cap0 z0 _ w0).mono ?_
  rintro e W1 ⟨v, n, f, u, m, g, rfl, O0, hn, hf, U0, hm, hg, bc⟩
  clear w0
  obtain ⟨sa, sc, rfl, -⟩ := O0.form
  obtain ⟨ua, uc, rfl, -⟩ := U0.form
  clear hf hg
  have hi := fun w h1 h2 => iJm_any (.slice sa n sc) n f (.slice ua m uc) m g w h1 (by omega) h2 (by omega)
  have hs := fun w h1 h2 => sJm_any (.slice sa n sc) n f (.slice ua m uc) m g w h1 (by omega) h2 (by omega)
  cases hv : (hopB n f 16 && jamB m g) with
  | false =>
    rw [jm_no hv] at hi hs
    clear hv
    have HI := Lib.hid hi
    have HS := Lib.hid hs
    clear hi hs
    go_wp2_with fail
    refine (HI.out _ O0.ints U0.ints).mono ?_
    rintro e w101 ⟨rfl, hb102⟩
    have O103 := O0.below hb102
    clear O0
    have O104 := U0.below hb102
    clear U0
    have b105 := below_then bc (Nat.le_refl _) hb102
    clear bc
    have bc := b105
    clear b105 hb102
    go_wp2_with fail
    refine (HS.out _ O103.ints O104.ints).mono ?_
    rintro e w106 ⟨rfl, hb107⟩
    have O108 := O103.below hb107
    clear O103
    have O109 := O104.below hb107
    clear O104
    have b110 := below_then bc (Nat.le_refl _) hb107
    clear bc
    have bc := b110
    clear b110 hb107
    go_wp2_with fail
    refine (HS.out _ O108.ints O109.ints).mono ?_
    rintro e w111 ⟨rfl, hb112⟩
    have O113 := O108.below hb112
    clear O108
    have O114 := O109.below hb112
    clear O109
    have b115 := below_then bc (Nat.le_refl _) hb112
    clear bc
    have bc := b115
    clear b115 hb112
    go_wp2
    go_ret
    exact ⟨rfl, bc⟩
  | true =>
    simp only [Bool.and_eq_true] at hv
    obtain ⟨h1, h2⟩ := hv
    obtain ⟨-, h3, -⟩ := (hopB_iff _ _ _).1 h1
    obtain ⟨H, hH⟩ : ∃ H, m / 2 = H := ⟨_, rfl⟩
    have hH2 : H ≤ m := by omega
    have q1 : (m : Int) / 2 = (H : Int) := by omega
    have q2 : (m : Int).tdiv 2 = (H : Int) := by rw [Int.tdiv_eq_ediv_of_nonneg (by omega)]; omega
    obtain ⟨X, Y, V, e1, e2, e3, e4, e5, l1, l2, l3, l4, l5⟩ := jm_halves h1 h2 hH2
    clear hH h1 h2
    have ha := fun u w h1 h2 => iJm_any (.slice sa n sc) n f u H g w h1 (by omega) h2 (by omega)
    have hb := fun u w h1 h2 => iJm_any (.slice sa n sc) n f u (m - H) (fun i => g (H + i)) w h1 (by omega) h2 (by omega)
    have hc := fun u w h1 h2 => iJm_any (.slice sa n sc) n f u 0 g w h1 (by omega) h2 (by omega)
    have hh := fun y w h => ssHas_any (.slice ua m uc) m g y w h (by omega)
    rw [e1] at hi hs
    rw [e3] at ha
    rw [e4] at hb
    rw [e5] at hc
    clear e1 e3 e4 e5
    obtain ⟨t1, -⟩ := headI U0.intsC H hH2
    obtain ⟨ta, tc, t2, -⟩ := tailC U0.intsC H hH2
    have HI := Lib.hid hi
    have HS := Lib.hid hs
    have HA := Lib.hid ha
    have HB := Lib.hid hb
    have HC := Lib.hid hc
    have HH := Lib.hid hh
    have E2 := Lib.hid e2
    clear hi hs ha hb hc hh e2
    go_wp2_with fail
    refine (HI.out _ O0.ints U0.ints).mono ?_
    rintro e w101 ⟨rfl, hb102⟩
    have O103 := O0.below hb102
    clear O0
    have O104 := U0.below hb102
    clear U0
    have b105 := below_then bc (Nat.le_refl _) hb102
    clear bc
    have bc := b105
    clear b105 hb102
    go_wp2_with fail
    refine (HS.out _ O103.ints O104.ints).mono ?_
    rintro e w106 ⟨rfl, hb107⟩
    have O108 := O103.below hb107
    clear O103
    have O109 := O104.below hb107
    clear O104
    have b110 := below_then bc (Nat.le_refl _) hb107
    clear bc
    have bc := b110
    clear b110 hb107
    have LL := Lib.hid (fun k => lostC_le f m g k)
    have C1 := Lib.hid O108.ints.cells
    go_wp2
    go_loop [6, 7] (fun x y => ∃ i L : Nat, i ≤ n ∧ x = .int .i64 L ∧ y = .int .i64 i ∧ Hid (lostC f m g i = L)) (fun _ y => n - (intOf y).toNat)
    case atStart => exact ⟨0, 0, Nat.zero_le _, rfl, rfl, Lib.hid rfl⟩
    case round =>
      obtain ⟨i, L, hi, rfl, rfl, rL⟩ := hrel
      by_cases hlt : i < n
      · skip
        have hLb : L ≤ i := by rw [← rL.out]; exact LL.out i
        obtain ⟨x1, rfl, -, c1⟩ := C1.out i hlt
        have i0 : (0 : Int) ≤ (i : Int) := by omega
        have i1 : (i : Int) < (n : Int) := by omega
        obtain ⟨y, hy⟩ : ∃ y, f i = y := ⟨_, rfl⟩
        have HY := Lib.hid hy
        rw [hy] at c1
        clear hy
        go_wp2_with fail
        refine (HH.out y _ O109.ints).mono ?_
        rintro e w' ⟨rfl, rfl⟩
        cases hJ : isJ m g y
        · skip
          have nL := Lib.hid ((lostC_no (by rw [HY.out]; exact hJ)).trans rL.out)
          clear hJ rL
          go_wp2
          go_round
          case rel => exact ⟨i + 1, _, by omega, rfl, by go_num, nL⟩
          case measure => simp [intOf]; omega
        · skip
          have nL := Lib.hid ((lostC_yes (by rw [HY.out]; exact hJ)).trans (congrArg (· + 1) rL.out))
          clear hJ rL
          go_wp2
          go_round
          case rel => exact ⟨i + 1, _, by omega, by go_num, by go_num, nL⟩
          case measure => simp [intOf]; omega
      · skip
        obtain rfl : i = n := by omega
        obtain rfl : L = V := rL.out.symm.trans E2.out
        clear C1 rL
        go_wp2_with fail
        refine (HC.out (.slice none 0 0) _ O108.ints ⟨none, 0, rfl, fun i hi => absurd hi (Nat.not_lt_zero i)⟩).mono ?_
        rintro e w311 ⟨rfl, hb312⟩
        have O313 := O108.below hb312
        clear O108
        have O314 := O109.below hb312
        clear O109
        have b315 := below_then bc (Nat.le_refl _) hb312
        clear bc
        have bc := b315
        clear b315 hb312
        go_wp2_with fail
        refine (HA.out _ _ O313.ints (headI O314.intsC H hH2).2.ints).mono ?_
        rintro e w316 ⟨rfl, hb317⟩
        have O318 := O313.below hb317
        clear O313
        have O319 := O314.below hb317
        clear O314
        have b320 := below_then bc (Nat.le_refl _) hb317
        clear bc
        have bc := b320
        clear b320 hb317
        have T2 : IntsC w316 (.slice ta (m - H) tc) (m - H) (fun i => g (H + i)) := by
          obtain ⟨a', c', t3, t4⟩ := tailC O319.intsC H hH2
          have := (t3 w316).symm.trans (t2 w316)
          injection this with this _
          injection this with e1 _ e3
          rw [← e1, ← e3]; exact t4
        go_wp2_with fail
        refine (HB.out _ _ O318.ints T2.ints).mono ?_
        rintro e w321 ⟨rfl, hb322⟩
        have O323 := O318.below hb322
        clear O318
        have O324 := O319.below hb322
        clear O319
        have b325 := below_then bc (Nat.le_refl _) hb322
        clear bc
        have bc := b325
        clear b325 hb322
        go_wp2
        go_ret
        exact ⟨ret_bool (a := decide ((L : Int) ≤ (X : Int) + (Y : Int))) (decide_eq_true (by omega)), bc⟩
end Go.Proofs.Ytbllmgdnhjdphac
