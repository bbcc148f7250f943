/- The program's TrackStep and LockedAt. -/
import Derived.Test.YtagdfohjhokgiaaPilS
namespace Go.Proofs.Ytagdfohjhokgiaa
open Go.RowKit
set_option linter.unusedVariables false
set_option maxRecDepth 100000
theorem sc_ok {n : Nat} {f : Nat → Int} {c : ByteArray} {g k : Int} {b : Bool} (h : roB n f c g k = b) : (scAns n f c g k).2 = b := by
  cases b with
  | false => rw [sc_no h]
  | true => rw [sc_yes h]
set_option maxHeartbeats 1600000 in
theorem iTrack_any (v : Value) (n : Nat) (f : Nat → Int) (c : ByteArray) (g k : Int) (w : World) (h : IntsC w v n f) (hn : n ≤ 1048576) (hc : c.size ≤ 1048576) :
    Calls Try.prog 37 #[v, .agg #[.string c, .int .i64 g], .int .i64 k] w fun e w' => e = .returned (.int .i64 (tsAns n f c g k)) ∧ Below w.heap.size w w' := by
  have HI := Lib.hid h
  cases hr : roB n f c g k with
  | false =>
    have HA := Lib.hid (fun w h => iLoop_no v n f c g k w h hn hc hr)
    rw [ts_no hr]
    clear hr
    obtain ⟨a, cap, rfl, -⟩ := h
    have b0 := (Below.refl w.heap.size w).alloc (Nat.le_refl _) (.cells #[.string c, .int .i64 g] 24)
    have u0 := PilAt.new w 24 c g
    go_enter Try.func37, Try.ntmps37
    go_wp2_with fail
    refine (HA.out _ (HI.out.below b0)).mono ?_
    rintro e w1 ⟨rfl, n1⟩
    have b1 := below_then b0 (Nat.le_refl _) n1
    clear n1 b0 u0
    go_wp2
    go_ret
    exact ⟨rfl, b1⟩
  | true =>
    obtain ⟨hs, ho⟩ := (roB_iff _ _ _ _ _).1 hr
    obtain ⟨hp, k0, k1⟩ := (offB_iff _ _ _).1 ho
    obtain ⟨K, rfl⟩ : ∃ K : Nat, k = K := ⟨k.toNat, by omega⟩
    obtain ⟨G, hG, q1, q2, -, -, -, -, -, -, -⟩ := pil_nat hp
    have HA := Lib.hid (fun w h => iLoop_yes v n f c g K w h hr)
    have HD := Lib.hid (fun bl bs vt W hL => iStep_any bl bs v n f vt c g.toNat (perL c g) K W hL (by omega) (by omega))
    rw [ts_yes hr, Int.toNat_natCast]
    clear hr hs ho hp k0 k1 hG
    obtain ⟨a, cap, rfl, -⟩ := h
    have b0 := (Below.refl w.heap.size w).alloc (Nat.le_refl _) (.cells #[.string c, .int .i64 g] 24)
    have u0 := PilAt.new w 24 c g
    go_enter Try.func37, Try.ntmps37
    go_wp2_with fail
    refine (HA.out _ (HI.out.below b0)).mono ?_
    rintro e w1 ⟨bl, bs, vt, rfl, HL, hb, n1⟩
    have b1 := below_then b0 (Nat.le_refl _) n1
    have hbl : w.heap.size ≤ bl := Nat.le_trans (by simp) hb
    clear n1 b0 u0 hb
    go_wp2_with fail
    refine (HD.out _ _ _ _ HL).mono ?_
    rintro e w2 ⟨rfl, -, g2⟩
    have b2 : Below w.heap.size w w2 := b1.grown g2 b1.size (fun q hq => by cases hq; omega)
    clear HL b1 g2
    go_wp2
    go_ret
    exact ⟨rfl, b2⟩
set_option maxHeartbeats 1600000 in
theorem iLocked_any (v : Value) (n : Nat) (f : Nat → Int) (c : ByteArray) (g k t : Int) (w : World) (h : IntsC w v n f) (hn : n ≤ 1048576) (hc : c.size ≤ 1048576) :
    Calls Try.prog 18 #[v, .agg #[.string c, .int .i64 g], .int .i64 k, .int .i64 t] w fun e w' => e = .returned (.bool (laAns n f c g k t)) ∧ Below w.heap.size w w' := by
  have HI := Lib.hid h
  have hS := fun w h => iScoreAt_any v n f c g k w h hn hc
  have hT := fun w h => iTrack_any v n f c g k w h hn hc
  cases hr : roB n f c g k with
  | false =>
    rw [sc_no hr] at hS
    rw [la_no hr]
    have HS := Lib.hid hS
    clear hr hS hT
    obtain ⟨a, cap, rfl, -⟩ := h
    have b0 := (Below.refl w.heap.size w).alloc (Nat.le_refl _) (.cells #[.string c, .int .i64 g] 24)
    have u0 := PilAt.new w 24 c g
    go_enter Try.func18, Try.ntmps18
    go_wp2_with fail
    refine (HS.out _ (HI.out.below b0)).mono ?_
    rintro e w1 ⟨rfl, n1⟩
    have b1 := below_then b0 (Nat.le_refl _) n1
    clear n1 b0 u0
    go_wp2
    go_ret
    exact ⟨rfl, b1⟩
  | true =>
    obtain ⟨-, k0, -⟩ := (offB_iff _ _ _).1 ((roB_iff _ _ _ _ _).1 hr).2
    obtain ⟨K, rfl⟩ : ∃ K : Nat, k = K := ⟨k.toNat, by omega⟩
    rw [sc_yes hr] at hS
    rw [ts_yes hr, Int.toNat_natCast] at hT
    rw [la_yes hr, Int.toNat_natCast]
    obtain ⟨S, hSS⟩ : ∃ S, stN n f c g.toNat (perL c g) K = S := ⟨_, rfl⟩
    obtain ⟨X, hX⟩ : ∃ X, scr n f c g.toNat (perL c g) (K : Int) = X := ⟨_, rfl⟩
    rw [hSS] at hT ⊢
    rw [hX] at hS ⊢
    have HS := Lib.hid hS
    have HT := Lib.hid hT
    clear hr hS hT hSS hX
    obtain ⟨a, cap, rfl, -⟩ := h
    by_cases e : t ≤ X
    · have HE := Lib.hid (show ((S : Int) == (K : Int)) = (decide (S = K) && decide (t ≤ X)) by
        rw [decide_eq_true e, Bool.and_true, Bool.eq_iff_iff, beq_iff_eq, decide_eq_true_eq]; omega)
      have b0 := (Below.refl w.heap.size w).alloc (Nat.le_refl _) (.cells #[.string c, .int .i64 g] 24)
      have u0 := PilAt.new w 24 c g
      go_enter Try.func18, Try.ntmps18
      go_wp2_with fail
      refine (HS.out _ (HI.out.below b0)).mono ?_
      rintro e w1 ⟨rfl, n1⟩
      have b1 := below_then b0 (Nat.le_refl _) n1
      have u1 := u0.below n1 (by simp)
      clear n1 b0 u0
      obtain ⟨x0, x1, x2⟩ := id u1
      go_wp2_with fail
      clear x0 x1 x2
      refine (HT.out _ (HI.out.below b1)).mono ?_
      rintro e w2 ⟨rfl, n2⟩
      have b2 := below_then b1 (Nat.le_refl _) n2
      clear n2 b1 u1
      go_wp2
      go_ret
      exact ⟨ret_bool HE.out, b2⟩
    · have HE := Lib.hid (show false = (decide (S = K) && decide (t ≤ X)) by rw [decide_eq_false e, Bool.and_false])
      have e2 : X < t := by omega
      have b0 := (Below.refl w.heap.size w).alloc (Nat.le_refl _) (.cells #[.string c, .int .i64 g] 24)
      have u0 := PilAt.new w 24 c g
      go_enter Try.func18, Try.ntmps18
      go_wp2_with fail
      refine (HS.out _ (HI.out.below b0)).mono ?_
      rintro e w1 ⟨rfl, n1⟩
      have b1 := below_then b0 (Nat.le_refl _) n1
      clear n1 b0 u0
      go_wp2
      go_ret
      exact ⟨ret_bool HE.out, b1⟩
end Go.Proofs.Ytagdfohjhokgiaa
