/- Chapter 5's model: steps, and the functions that ask an offset. -/
import Derived.Test.YtagdfohjhokgiaaPil5
namespace Go.Proofs.Ytagdfohjhokgiaa
open Go.RowKit
set_option linter.unusedVariables false
set_option maxRecDepth 100000
theorem st_pos {n : Nat} {f : Nat → Int} {c : ByteArray} {G P K : Nat} (h : 0 < elD n f c G P (K : Int)) : stN n f c G P K = modN ((K : Int) + 1) P := by unfold stN sgI; rw [if_pos h]
theorem st_neg {n : Nat} {f : Nat → Int} {c : ByteArray} {G P K : Nat} (h : elD n f c G P (K : Int) < 0) : stN n f c G P K = modN ((K : Int) - 1) P := by unfold stN sgI; rw [if_neg (by omega), if_pos h]; rfl
theorem st_zero {n : Nat} {f : Nat → Int} {c : ByteArray} {G P K : Nat} (h : elD n f c G P (K : Int) = 0) (hK : K < P) : stN n f c G P K = K := by
  unfold stN sgI; rw [if_neg (by omega), if_neg (by omega), Int.add_zero]; exact modN_id K P hK
set_option maxHeartbeats 1600000 in
theorem l5Step_yes (v : Value) (n : Nat) (f : Nat → Int) (c : ByteArray) (g : Int) (K : Nat) (w : World) (h : IntsR w v n f) (hr : roB n f c g K = true) :
    Calls Try.prog 39 #[v, .agg #[.string c, .int .i64 g], .int .i64 (K : Int)] w fun e w' => e = .returned (.int .i64 (stN n f c g.toNat (perL c g) K : Int)) ∧ Below w.heap.size w w' := by
  obtain ⟨hs, ho⟩ := (roB_iff _ _ _ _ _).1 hr
  obtain ⟨hA, h3⟩ := (sigB_iff n f).1 hs
  obtain ⟨hp, k0, k1⟩ := (offB_iff _ _ _).1 ho
  have hE := fun w h => l5Early_yes v n f c g K w h hr
  obtain ⟨G, rfl, q1, q2, q3, q4, q5, q6, q7, q8, q9⟩ := pil_nat hp
  have hL := fun w => l5Length_yes c G w hp
  rw [Int.toNat_natCast] at hE ⊢
  obtain ⟨P, hP⟩ : ∃ P, perL c G = P := ⟨_, rfl⟩
  rw [hP] at hL hE q7 q8 q9 k1 ⊢
  have hM := fun x w => l2Mod_big x P w (by omega) (by omega)
  have z1 := st_pos (n := n) (f := f) (c := c) (G := G) (P := P) (K := K)
  have z2 := st_neg (n := n) (f := f) (c := c) (G := G) (P := P) (K := K)
  have z3 := st_zero (n := n) (f := f) (c := c) (G := G) (P := P) (K := K)
  have eb := elD_bd (n := n) (f := f) q4 q7 q8 hA h3 (K : Int)
  obtain ⟨D, hD⟩ : ∃ D, elD n f c G P (K : Int) = D := ⟨_, rfl⟩
  rw [hD] at hE z1 z2 z3 eb
  obtain ⟨S, hS⟩ : ∃ S, stN n f c G P K = S := ⟨_, rfl⟩
  rw [hS] at z1 z2 z3 ⊢
  obtain ⟨eb1, eb2⟩ := eb
  have HE := Lib.hid hE
  have HL := Lib.hid hL
  have HI := Lib.hid h
  obtain ⟨a, cap, rfl, -⟩ := h
  have b0 := (Below.refl w.heap.size w).alloc (Nat.le_refl _) (.cells #[.string c, .int .i64 (G : Int)] 24)
  have u0 := PilAt.new w 24 c (G : Int)
  clear hL hE hD hS hP hs ho hA hp hr h3 q3 q4 q7
  by_cases d1 : 0 < D
  · skip
    have HM := Lib.hid (fun w => hM ((K : Int) + 1) w)
    rw [← z1 d1] at HM
    clear hM z1 z2 z3
    go_enter Try.func39, Try.ntmps39
    go_wp2_with fail
    refine (HE.out _ (HI.out.below b0)).mono ?_
    rintro e w51 ⟨rfl, n51⟩
    have b51 := below_then b0 (Nat.le_refl _) n51
    have u51 := u0.below n51 (by simp)
    clear n51 b0 u0
    obtain ⟨x0, x1, x2⟩ := id u51
    go_wp2_with fail
    clear x0 x1 x2
    refine (HL.out _).mono ?_
    rintro e w52 ⟨rfl, n52⟩
    have b52 := below_then b51 (Nat.le_refl _) n52
    clear n52 b51 u51
    go_wp2_with fail
    refine (HM.out _).mono ?_
    rintro e w' ⟨rfl, rfl⟩
    go_wp2
    go_ret
    exact ⟨rfl, b52⟩
  by_cases d2 : D < 0
  · skip
    have HM := Lib.hid (fun w => hM ((K : Int) - 1) w)
    rw [← z2 d2] at HM
    clear hM z1 z2 z3
    go_enter Try.func39, Try.ntmps39
    go_wp2_with fail
    refine (HE.out _ (HI.out.below b0)).mono ?_
    rintro e w51 ⟨rfl, n51⟩
    have b51 := below_then b0 (Nat.le_refl _) n51
    have u51 := u0.below n51 (by simp)
    clear n51 b0 u0
    obtain ⟨x0, x1, x2⟩ := id u51
    go_wp2_with fail
    clear x0 x1 x2
    refine (HL.out _).mono ?_
    rintro e w52 ⟨rfl, n52⟩
    have b52 := below_then b51 (Nat.le_refl _) n52
    clear n52 b51 u51
    go_wp2_with fail
    refine (HM.out _).mono ?_
    rintro e w' ⟨rfl, rfl⟩
    go_wp2
    go_ret
    exact ⟨rfl, b52⟩
  · skip
    have HZ := Lib.hid (z3 (by omega) (by omega))
    clear hM z1 z2 z3
    go_enter Try.func39, Try.ntmps39
    go_wp2_with fail
    refine (HE.out _ (HI.out.below b0)).mono ?_
    rintro e w51 ⟨rfl, n51⟩
    have b51 := below_then b0 (Nat.le_refl _) n51
    clear n51 b0 u0
    go_wp2
    go_ret
    exact ⟨ret_int (by rw [HZ.out]), b51⟩
set_option maxHeartbeats 800000 in
theorem sLocked_any (v : Value) (n : Nat) (f : Nat → Int) (c : ByteArray) (g k : Int) (t : Int) (w : World) (h : IntsR w v n f) (hn : n ≤ 1048576) (hc : c.size ≤ 1048576) :
    Calls Try.prog 19 #[v, .agg #[.string c, .int .i64 g], .int .i64 k, .int .i64 t] w fun e w' => e = .returned (.bool (laAns n f c g k t)) ∧ Below w.heap.size w w' := by
  have HI := Lib.hid h
  have hR := fun w h => ready_any v n f c g w h hn hc
  cases hd : rdB n f c g with
  | false =>
    have hr := ro_out (k := k) hd
    rw [hd] at hR
    have HR := Lib.hid hR
    rw [la_no hr]
    clear hr hd hR
    obtain ⟨a, cap, rfl, -⟩ := h
    have b0 := (Below.refl w.heap.size w).alloc (Nat.le_refl _) (.cells #[.string c, .int .i64 g] 24)
    have u0 := PilAt.new w 24 c g
    go_enter Try.func19, Try.ntmps19
    go_wp2_with fail
    refine (HR.out _ (HI.out.below b0)).mono ?_
    rintro e w1 ⟨rfl, n1⟩
    have b1 := below_then b0 (Nat.le_refl _) n1
    clear n1 b0 u0
    go_wp2
    go_ret
    exact ⟨rfl, b1⟩
  | true =>
    rw [hd] at hR
    have HR := Lib.hid hR
    have hp := ((rdB_iff _ _ _ _).1 hd).2
    have hO := fun w => l5Offset_any c g k w hp
    rw [ro_in hd] at hO
    cases hr : roB n f c g k with
    | false =>
      rw [hr] at hO
      have HO := Lib.hid hO
      rw [la_no hr]
      clear hr hd hR hO hp
      obtain ⟨a, cap, rfl, -⟩ := h
      have b0 := (Below.refl w.heap.size w).alloc (Nat.le_refl _) (.cells #[.string c, .int .i64 g] 24)
      have u0 := PilAt.new w 24 c g
      go_enter Try.func19, Try.ntmps19
      go_wp2_with fail
      refine (HR.out _ (HI.out.below b0)).mono ?_
      rintro e w1 ⟨rfl, n1⟩
      have b1 := below_then b0 (Nat.le_refl _) n1
      have u1 := u0.below n1 (by simp)
      clear n1 b0 u0
      obtain ⟨x0, x1, x2⟩ := id u1
      go_wp2_with fail
      clear x0 x1 x2
      refine (HO.out _).mono ?_
      rintro e w2 ⟨rfl, n2⟩
      have b2 := below_then b1 (Nat.le_refl _) n2
      clear n2 b1 u1
      go_wp2
      go_ret
      exact ⟨rfl, b2⟩
    | true =>
      rw [hr] at hO
      have HO := Lib.hid hO
      obtain ⟨hs, ho⟩ := (roB_iff _ _ _ _ _).1 hr
      obtain ⟨hA, h3⟩ := (sigB_iff n f).1 hs
      obtain ⟨-, k0, k1⟩ := (offB_iff _ _ _).1 ho
      obtain ⟨K, rfl⟩ : ∃ K : Nat, k = K := ⟨k.toNat, by omega⟩
      have p9 : perL c g ≤ 2040 := by obtain ⟨_, -, -, -, -, -, -, -, -, -, q9⟩ := pil_nat hp; exact q9
      rw [la_yes hr, Int.toNat_natCast]
      have HS := Lib.hid (fun w h => l5Step_yes v n f c g K w h hr)
      have HC := Lib.hid (fun w h => l5Score_zero v n f c g (K : Int) w h hA h3 hp (by omega) (by omega))
      obtain ⟨S, hS⟩ : ∃ S, stN n f c g.toNat (perL c g) K = S := ⟨_, rfl⟩
      obtain ⟨X, hX⟩ : ∃ X, scr n f c g.toNat (perL c g) (K : Int) = X := ⟨_, rfl⟩
      rw [hS] at HS ⊢
      rw [hX] at HC ⊢
      clear hr hd hR hO hp hs ho hA h3 k0 k1 hS hX p9
      obtain ⟨a, cap, rfl, -⟩ := h
      have b0 := (Below.refl w.heap.size w).alloc (Nat.le_refl _) (.cells #[.string c, .int .i64 g] 24)
      have u0 := PilAt.new w 24 c g
      by_cases e : S = K
      · skip
        have e1 : ((S : Int) == (K : Int)) = true := by rw [beq_iff_eq]; omega
        have HE := Lib.hid (show decide (t ≤ X) = (decide (S = K) && decide (t ≤ X)) by rw [decide_eq_true e, Bool.true_and])
        clear e
        go_enter Try.func19, Try.ntmps19
        go_wp2_with fail
        refine (HR.out _ (HI.out.below b0)).mono ?_
        rintro e w51 ⟨rfl, n51⟩
        have b51 := below_then b0 (Nat.le_refl _) n51
        have u51 := u0.below n51 (by simp)
        clear n51 b0 u0
        obtain ⟨x0, x1, x2⟩ := id u51
        go_wp2_with fail
        clear x0 x1 x2
        refine (HO.out _).mono ?_
        rintro e w52 ⟨rfl, n52⟩
        have b52 := below_then b51 (Nat.le_refl _) n52
        have u52 := u51.below n52 u51.2.2
        clear n52 b51 u51
        obtain ⟨x0, x1, x2⟩ := id u52
        go_wp2_with fail
        clear x0 x1 x2
        refine (HS.out _ (HI.out.below b52)).mono ?_
        rintro e w53 ⟨rfl, n53⟩
        have b53 := below_then b52 (Nat.le_refl _) n53
        have u53 := u52.below n53 u52.2.2
        clear n53 b52 u52
        obtain ⟨x0, x1, x2⟩ := id u53
        go_wp2_with fail
        clear x0 x1 x2
        refine (HC.out _ (HI.out.below b53)).mono ?_
        rintro e w54 ⟨rfl, n54⟩
        have b54 := below_then b53 (Nat.le_refl _) n54
        clear n54 b53 u53
        go_wp2
        go_ret
        exact ⟨ret_bool HE.out, b54⟩
      · skip
        have e1 : ((S : Int) == (K : Int)) = false := by rw [beq_eq_false_iff_ne]; omega
        have HE := Lib.hid (show false = (decide (S = K) && decide (t ≤ X)) by rw [decide_eq_false e]; rfl)
        clear e
        go_enter Try.func19, Try.ntmps19
        go_wp2_with fail
        refine (HR.out _ (HI.out.below b0)).mono ?_
        rintro e w51 ⟨rfl, n51⟩
        have b51 := below_then b0 (Nat.le_refl _) n51
        have u51 := u0.below n51 (by simp)
        clear n51 b0 u0
        obtain ⟨x0, x1, x2⟩ := id u51
        go_wp2_with fail
        clear x0 x1 x2
        refine (HO.out _).mono ?_
        rintro e w52 ⟨rfl, n52⟩
        have b52 := below_then b51 (Nat.le_refl _) n52
        have u52 := u51.below n52 u51.2.2
        clear n52 b51 u51
        obtain ⟨x0, x1, x2⟩ := id u52
        go_wp2_with fail
        clear x0 x1 x2
        refine (HS.out _ (HI.out.below b52)).mono ?_
        rintro e w53 ⟨rfl, n53⟩
        have b53 := below_then b52 (Nat.le_refl _) n53
        clear n53 b52 u52
        go_wp2
        go_ret
        exact ⟨ret_bool HE.out, b53⟩
end Go.Proofs.Ytagdfohjhokgiaa
