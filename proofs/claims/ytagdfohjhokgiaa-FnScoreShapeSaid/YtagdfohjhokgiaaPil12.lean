/- BestOffset of both sides. -/
import Derived.Test.YtagdfohjhokgiaaPil12a
namespace Go.Proofs.Ytagdfohjhokgiaa
open Go.RowKit
set_option linter.unusedVariables false
set_option maxRecDepth 100000
theorem smax_any (v : Value) (n : Nat) (z : Nat → Int) (w : World) (h : IntsR w v n z) (h1 : 1 ≤ n) (hn : n ≤ 1048576) :
    Calls Try.prog 30 #[v] w fun e w' => e = .returned (.int .i64 (mxI z n)) ∧ w = w' := by
  obtain ⟨a, cap, rfl, hc⟩ := h
  obtain ⟨x0, rfl, hx0, hc0⟩ := hc 0 (by omega)
  have HC : Hid (∀ i, i < n → w.cell? (x0.add i) = some (.int .i64 (z i))) := Lib.hid (fun i hi => by
    obtain ⟨x', e, -, h2⟩ := hc i hi
    injection e with e
    subst e
    exact h2)
  have e0 : x0.add 0 = x0 := by unfold Addr.add; rfl
  have hc1 : w.cell? x0 = some (.int .i64 (z 0)) := by rw [← e0]; exact hc0
  have l1 : ¬ ((n : Int) < 1) := by omega
  have i0 : (0 : Int) < (n : Int) := by omega
  have n0 : 0 < n := by omega
  clear hc hx0
  have M1 := Lib.hid (mxI_one z)
  go_enter Try.func30, Try.ntmps30
  go_wp2
  clear hc0 hc1
  go_loop [3, 4] (fun s t => ∃ k : Nat, 1 ≤ k ∧ k ≤ n ∧ t = .int .i64 k ∧ s = .int .i64 (mxI z k)) (fun _ t => n - (intOf t).toNat)
  case atStart => exact ⟨1, by omega, by omega, by simp, by rw [M1.out]⟩
  case round =>
    obtain ⟨k, hk1, hk, rfl, rfl⟩ := hrel
    by_cases hlt : k < n
    · have c1 := HC.out k hlt
      have hsu := mxI_succ z k
      obtain ⟨S, hS⟩ : ∃ S, mxI z k = S := ⟨_, rfl⟩
      rw [hS] at hsu ⊢
      obtain ⟨y, hy⟩ : ∃ y, z k = y := ⟨_, rfl⟩
      rw [hy] at hsu c1
      have j0 : (0 : Int) ≤ (k : Int) := by omega
      have j1 : (k : Int) < (n : Int) := by omega
      clear hS hy
      by_cases hm : S < y
      · have e2 : max S y = y := by omega
        have HR : Hid (mxI z (k + 1) = y) := Lib.hid (hsu.trans e2)
        have hm2 : S ≤ y := by omega
        clear e2 hsu
        go_wp2
        go_round
        case rel => exact ⟨k + 1, by omega, by omega, by go_num, by rw [HR.out]⟩
        case measure => simp [intOf]; omega
      · have e2 : max S y = S := by omega
        have HR : Hid (mxI z (k + 1) = S) := Lib.hid (hsu.trans e2)
        clear e2 hsu
        by_cases he : S = y
        · subst he
          go_wp2
          go_round
          case rel => exact ⟨k + 1, by omega, by omega, by go_num, by rw [HR.out]⟩
          case measure => simp [intOf]; omega
        · have hm2 : ¬ S ≤ y := by omega
          have hm3 : y ≤ S := by omega
          clear he
          go_wp2
          go_round
          case rel => exact ⟨k + 1, by omega, by omega, by go_num, by rw [HR.out]⟩
          case measure => simp [intOf]; omega
    · obtain rfl : k = n := by omega
      go_wp2
      go_ret
      exact ⟨rfl, rfl⟩
theorem sindex_any (v : Value) (n J : Nat) (z : Nat → Int) (x : Int) (w : World) (h : IntsR w v n z) (hn : n ≤ 1048576) (hJ : J < n) (hx : z J = x) (hb : ∀ i, i < J → z i ≠ x) :
    Calls Try.prog 29 #[v, .int .i64 x] w fun e w' => e = .returned (.int .i64 (J : Int)) ∧ w = w' := by
  obtain ⟨a, cap, rfl, hc⟩ := h
  have HC := Lib.hid hc
  have HX := Lib.hid hx
  have HB := Lib.hid hb
  clear hc hx hb
  go_enter Try.func29, Try.ntmps29
  go_wp2
  go_loop [8] (fun t => ∃ k : Nat, k ≤ J ∧ t = .int .i64 k) (fun t => n - (intOf t).toNat)
  case atStart => exact ⟨0, by omega, rfl⟩
  case round =>
    obtain ⟨k, hk, rfl⟩ := hrel
    obtain ⟨p, rfl, -, c1⟩ := HC.out k (by omega)
    have j0 : (0 : Int) ≤ (k : Int) := by omega
    have j1 : (k : Int) < (n : Int) := by omega
    by_cases hlt : k < J
    · have hne := HB.out k hlt
      obtain ⟨y, hy⟩ : ∃ y, z k = y := ⟨_, rfl⟩
      rw [hy] at c1 hne
      have t1 : (x == y) = false := by rw [beq_eq_false_iff_ne]; exact fun e => hne e.symm
      clear hy hne
      go_wp2
      go_round
      case rel => exact ⟨k + 1, by omega, by go_num⟩
      case measure => simp [intOf]; omega
    · obtain rfl : k = J := by omega
      rw [HX.out] at c1
      have t1 : (x == x) = true := by simp
      go_wp2
      go_ret
      exact ⟨rfl, rfl⟩
set_option maxHeartbeats 800000 in
theorem iBest_any (v : Value) (n : Nat) (f : Nat → Int) (c : ByteArray) (g : Int) (w : World) (h : IntsC w v n f) (hn : n ≤ 1048576) (hc : c.size ≤ 1048576) :
    Calls Try.prog 12 #[v, .agg #[.string c, .int .i64 g]] w fun e w' => e = .returned (.int .i64 (boAns n f c g)) ∧ Below w.heap.size w w' := by
  have HI := Lib.hid h
  have hT := fun w h => iTable_any v n f c g w h hn hc
  cases hd : rdB n f c g with
  | false =>
    rw [bo_no hd]
    rw [st_no hd] at hT
    have HT := Lib.hid hT
    clear hT hd
    obtain ⟨a, cap, rfl, -⟩ := h
    have b0 := (Below.refl w.heap.size w).alloc (Nat.le_refl _) (.cells #[.string c, .int .i64 g] 24)
    have u0 := PilAt.new w 24 c g
    go_enter Try.func12, Try.ntmps12
    go_wp2_with fail
    refine (HT.out _ (HI.out.below b0)).mono ?_
    rintro e w1 ⟨u, rfl, O, n1⟩
    have b1 := below_then b0 (Nat.le_refl _) n1
    clear n1 b0 u0
    obtain ⟨ua, uc, rfl, -⟩ := O.form
    clear O
    go_wp2
    go_ret
    exact ⟨rfl, b1⟩
  | true =>
    rw [bo_yes hd]
    rw [st_yes hd] at hT
    have hp := ((rdB_iff _ _ _ _).1 hd).2
    obtain ⟨_, -, -, -, -, -, -, -, -, p8, p9⟩ := pil_nat hp
    obtain ⟨P, hP⟩ : ∃ P, perL c g = P := ⟨_, rfl⟩
    rw [hP] at hT p8 p9 ⊢
    obtain ⟨F, hF⟩ : ∃ F, stF n f c g = F := ⟨_, rfl⟩
    rw [hF] at hT ⊢
    have HT := Lib.hid hT
    have HM := Lib.hid (fun u w h => smax_any u P F w h p8 (by omega))
    have HX := Lib.hid (fun u w h => sindex_any u P (amx F P) F (mxI F P) w h (by omega) (amx_lt F P p8) rfl (fun i hi e => by have := amx_first F P i hi; unfold mxI at e; omega))
    obtain ⟨A, hA⟩ : ∃ A, amx F P = A := ⟨_, rfl⟩
    rw [hA] at HX ⊢
    obtain ⟨X, hX⟩ : ∃ X, mxI F P = X := ⟨_, rfl⟩
    rw [hX] at HX HM
    have e0 : ((P : Int) == 0) = false := by rw [beq_eq_false_iff_ne]; omega
    clear hT hd hp hP hF hA hX
    obtain ⟨a, cap, rfl, -⟩ := h
    have b0 := (Below.refl w.heap.size w).alloc (Nat.le_refl _) (.cells #[.string c, .int .i64 g] 24)
    have u0 := PilAt.new w 24 c g
    go_enter Try.func12, Try.ntmps12
    go_wp2_with fail
    refine (HT.out _ (HI.out.below b0)).mono ?_
    rintro e w1 ⟨u, rfl, O, n1⟩
    have b1 := below_then b0 (Nat.le_refl _) n1
    clear n1 b0 u0
    have HU := Lib.hid O.ints
    obtain ⟨ua, uc, rfl, -⟩ := O.form
    clear O
    go_wp2_with fail
    refine (HM.out _ _ HU.out).mono ?_
    rintro e w' ⟨rfl, rfl⟩
    go_wp2_with fail
    refine (HX.out _ _ HU.out).mono ?_
    rintro e w' ⟨rfl, rfl⟩
    go_wp2
    go_ret
    exact ⟨rfl, b1⟩
theorem amx_succ (f : Nat → Int) (k : Nat) : amx f (k + 1) = if f (amx f k) < f k then k else amx f k := rfl
def bst (f : Nat → Int) (k : Nat) : Int := if k = 0 then -1 else (amx f k : Int)
set_option maxHeartbeats 1600000 in
theorem sBest_any (v : Value) (n : Nat) (f : Nat → Int) (c : ByteArray) (g : Int) (w : World) (h : IntsR w v n f) (hn : n ≤ 1048576) (hc : c.size ≤ 1048576) :
    Calls Try.prog 13 #[v, .agg #[.string c, .int .i64 g]] w fun e w' => e = .returned (.int .i64 (boAns n f c g)) ∧ Below w.heap.size w w' := by
  have HI := Lib.hid h
  have hT := fun w h => sTable_any v n f c g w h hn hc
  have hE : boAns n f c g = bst (stF n f c g) (stN5 n f c g) := by
    cases hd : rdB n f c g with
    | false => rw [bo_no hd, st_no hd]; rfl
    | true =>
      have hp := ((rdB_iff _ _ _ _).1 hd).2
      obtain ⟨_, -, -, -, -, -, -, -, -, p8, p9⟩ := pil_nat hp
      rw [bo_yes hd, st_yes hd]; unfold bst; rw [if_neg (by omega)]
  have hN := stN5_le6 n f c g
  rw [hE]
  obtain ⟨P, hP⟩ : ∃ P, stN5 n f c g = P := ⟨_, rfl⟩
  rw [hP] at hT hN ⊢
  obtain ⟨F, hF⟩ : ∃ F, stF n f c g = F := ⟨_, rfl⟩
  rw [hF] at hT ⊢
  have HT := Lib.hid hT
  have HL := Lib.hid (fun k (h : 1 ≤ k) => amx_lt F k h)
  have HS := Lib.hid (fun k => amx_succ F k)
  clear hT hE hP hF
  obtain ⟨a, cap, rfl, -⟩ := h
  have b0 := (Below.refl w.heap.size w).alloc (Nat.le_refl _) (.cells #[.string c, .int .i64 g] 24)
  have u0 := PilAt.new w 24 c g
  go_enter Try.func13, Try.ntmps13
  go_wp2_with fail
  refine (HT.out _ (HI.out.below b0)).mono ?_
  rintro e w1 ⟨u, rfl, O, n1⟩
  have b1 := below_then b0 (Nat.le_refl _) n1
  clear n1 b0 u0
  obtain ⟨ua, uc, rfl, hcc⟩ := O.ints
  have HC := Lib.hid hcc
  have BB := Lib.hid b1
  clear O hcc b1
  go_wp2_with fail
  go_loopw [6, 7] (fun b i wr => ∃ k m : Nat, k ≤ P ∧ i = .int .i64 (k : Int) ∧ b = .int .i64 (bst F k) ∧ wr = w1.drewN m) (fun _ i _ => P - (intOf i).toNat)
  case atStart => exact ⟨0, 0, by omega, rfl, rfl, rfl⟩
  case round =>
    obtain ⟨k, m, hk, rfl, rfl, rfl⟩ := hrel
    obtain ⟨W, hW⟩ : ∃ W, w1.drewN m = W := ⟨_, rfl⟩
    by_cases hlt : k < P
    · have i0 : (0 : Int) ≤ (k : Int) := by omega
      have i1 : (k : Int) < (P : Int) := by omega
      obtain ⟨x, rfl, -, c1⟩ := HC.out k hlt
      have c1 : W.cell? (x.add k) = some (.int .i64 (F k)) := by rw [← hW]; exact c1
      by_cases h0 : k = 0
      · subst h0
        have HB1 := Lib.hid (show bst F (0 + 1) = 0 by unfold bst; rw [if_neg (by omega)]; simp [amx])
        have e1 : bst F 0 = -1 := rfl
        have t1 : decide ((-1 : Int) < 0) = true := by decide
        rw [e1, hW]
        have HW := Lib.hid hW
        clear e1 hW c1
        go_wp2_with fail
        go_quiet (fail)
        go_wp2
        go_roundw
        case rel => exact ⟨0 + 1, m + nq, by omega, by go_num, by rw [HB1.out]; rfl, by rw [← HW.out, World.drewN_drewN]⟩
        case measure => simp [intOf]; omega
      · have hb0 : bst F k = (amx F k : Int) := by unfold bst; rw [if_neg h0]
        have hb1 : bst F (k + 1) = (amx F (k + 1) : Int) := by unfold bst; rw [if_neg (by omega)]
        have hal := HL.out k (by omega)
        obtain ⟨x', e', -, c2⟩ := HC.out (amx F k) (by omega)
        injection e' with e'
        subst e'
        have c2 : W.cell? (x.add (amx F k)) = some (.int .i64 (F (amx F k))) := by rw [← hW]; exact c2
        have hsu := HS.out k
        rw [hb0, hW]
        have HW := Lib.hid hW
        obtain ⟨A, hA⟩ : ∃ A, amx F k = A := ⟨_, rfl⟩
        rw [hA] at c2 hsu hal ⊢
        obtain ⟨y1, hy1⟩ : ∃ y, F k = y := ⟨_, rfl⟩
        obtain ⟨y2, hy2⟩ : ∃ y, F A = y := ⟨_, rfl⟩
        rw [hy1] at c1 hsu
        rw [hy2] at c2 hsu
        have j0 : (0 : Int) ≤ (A : Int) := by omega
        have j1 : (A : Int) < (P : Int) := by omega
        have t1 : decide ((A : Int) < 0) = false := by rw [decide_eq_false_iff_not]; omega
        clear hW hb0 hA hy1 hy2
        by_cases hc : y2 < y1
        · have t2 : decide (y2 < y1) = true := decide_eq_true hc
          have HB1 := Lib.hid (show bst F (k + 1) = (k : Int) by rw [hb1, hsu, if_pos hc])
          clear hb1 hsu
          go_wp2_with fail
          go_quiet (fail)
          clear c1 c2 t1 t2
          go_wp2
          go_roundw
          case rel => exact ⟨k + 1, m + nq, by omega, by go_num, by rw [HB1.out], by rw [← HW.out, World.drewN_drewN]⟩
          case measure => simp [intOf]; omega
        · have t2 : decide (y2 < y1) = false := decide_eq_false hc
          have HB1 := Lib.hid (show bst F (k + 1) = (A : Int) by rw [hb1, hsu, if_neg hc])
          clear hb1 hsu
          go_wp2_with fail
          go_quiet (fail)
          clear c1 c2 t1 t2
          go_wp2
          go_roundw
          case rel => exact ⟨k + 1, m + nq, by omega, by go_num, by rw [HB1.out], by rw [← HW.out, World.drewN_drewN]⟩
          case measure => simp [intOf]; omega
    · obtain rfl : k = P := by omega
      clear hW
      go_wp2
      go_ret
      exact ⟨rfl, below_drewN BB.out m⟩
end Go.Proofs.Ytagdfohjhokgiaa
