/- How many copies are needed: CopiesNeeded of both sides. -/
import Derived.Test.YtpacaelnmpdnhaaDoorCmbI
import Derived.Test.YtpacaelnmpdnhaaDoorStrs2
namespace Go.Proofs.YtpacaelnmpdnhaaDoor
open Go.RowKit Go.Maps Go.Shelf
set_option linter.unusedVariables false
set_option maxRecDepth 100000
theorem SF.snocN {w : World} {B : Nat} {v : Value} {i : Nat} {f : Nat → ByteArray} {y : ByteArray} (h : SF w B v (i + 1) (fun j => if j < i then f j else y)) (hy : f i = y) : SF w B v (i + 1) f :=
  h.congr fun j hj => by
    by_cases e : j < i
    · simp only [if_pos e]
    · obtain rfl : j = i := by omega
      simp only [if_neg e]; exact hy.symm
theorem SlotAt.belowC {w w' : World} {b n C : Nat} {D : DataW Unit} (h : SlotAt w b n D) (hb : Below C w w') (hbC : b < C) : SlotAt w' b n D := by
  obtain ⟨es, clock, h0, F, hs, hD⟩ := h
  exact ⟨es, clock, (hb.block b hbC).trans h0, F, hs, hD⟩
theorem cmbAns_size (f : Nat → ByteArray) (n : Nat) : (cmbAns f n).1.size ≤ (f 0).size := by
  by_cases h : CmbP f n
  · rw [cmb_yes h]; unfold cmbS; rw [strF_size]; exact Nat.le_refl _
  · rw [cmb_no h]; exact Nat.zero_le _
/-- Copy k of data that is sent again and again. -/
def copG (z : ByteArray) (n : Nat) (h : Nat → Int) (m : Nat) (j : Nat → Int) (k : Nat) : ByteArray := cpS z n h m j (k * z.size)
theorem copG_size (z : ByteArray) (n : Nat) (h : Nat → Int) (m : Nat) (j : Nat → Int) (k : Nat) : (copG z n h m j k).size = z.size := strF_size _ _
/-- The first number of copies, from k on, of f, that lose no bit together; else -1. -/
noncomputable def ndK (g : Nat → ByteArray) : Nat → Nat → Int
  | 0, _ => -1
  | f + 1, k => if lostA (cmbAns g k).1 = 0 then (k : Int) else ndK g f (k + 1)
theorem ndK_yes {g : Nat → ByteArray} {f k : Nat} (h : lostA (cmbAns g k).1 = 0) : ndK g (f + 1) k = k := by simp only [ndK]; rw [if_pos h]
theorem ndK_no {g : Nat → ByteArray} {f k : Nat} (h : ¬ lostA (cmbAns g k).1 = 0) : ndK g (f + 1) k = ndK g f (k + 1) := by simp only [ndK]; rw [if_neg h]
open Classical in
noncomputable def nedA (z : ByteArray) (n : Nat) (h : Nat → Int) (m : Nat) (j : Nat → Int) (M : Int) : Int := if sndB z n h m j = true ∧ 1 ≤ M ∧ M ≤ 16 then ndK (copG z n h m j) M.toNat 1 else -1
theorem ned_no {z : ByteArray} {n : Nat} {h : Nat → Int} {m : Nat} {j : Nat → Int} {M : Int} (hh : ¬ (sndB z n h m j = true ∧ 1 ≤ M ∧ M ≤ 16)) : nedA z n h m j M = -1 := by unfold nedA; rw [if_neg hh]
theorem ned_yes {z : ByteArray} {n : Nat} {h : Nat → Int} {m : Nat} {j : Nat → Int} {M : Nat} (hh : sndB z n h m j = true) (h1 : 1 ≤ M) (h2 : M ≤ 16) : nedA z n h m j M = ndK (copG z n h m j) M 1 := by
  unfold nedA; rw [if_pos ⟨hh, by omega, by omega⟩, Int.toNat_natCast]
set_option maxHeartbeats 1600000 in
theorem sNed_any (z : ByteArray) (v : Value) (n : Nat) (h : Nat → Int) (u : Value) (m : Nat) (j : Nat → Int) (Mi : Int) (w : World) (hz : z.size ≤ 1048576) (hv : IntsR w v n h) (hn : n ≤ 1048576) (hu : IntsR w u m j) (hm : m ≤ 1048576) :
    Calls Tryd.prog 17 #[.string z, v, u, .int .i64 Mi] w fun e w' => e = .returned (.int .i64 (nedA z n h m j Mi)) ∧ Below w.heap.size w w' := by
  have h1 := fun w h1 h2 => sRdy_any z v u n h m j w h1 h2 hn hm hz
  have HI := fun w => l1In_any Mi 1 16 w
  have HV := Lib.hid hv
  have HU := Lib.hid hu
  cases hB : sndB z n h m j with
  | false =>
    have HX := Lib.hid (ned_no (z := z) (n := n) (h := h) (m := m) (j := j) (M := Mi) (fun hh => by rw [hB] at hh; exact absurd hh.1 (by simp)))
    rw [hB] at h1
    have H1 := Lib.hid h1
    clear h1 hB hv hu HI
    go_enter Tryd.func17, Tryd.ntmps17
    go_wp2_with fail
    refine (H1.out _ HV.out HU.out).mono ?_
    rintro e w' ⟨rfl, rfl⟩
    go_wp2
    go_ret
    exact ⟨ret_int HX.out.symm, Below.refl _ _⟩
  | true =>
    by_cases hM : 1 ≤ Mi ∧ Mi ≤ 16
    · obtain ⟨M, rfl⟩ : ∃ M : Nat, Mi = M := ⟨Mi.toNat, by omega⟩
      have hA := ned_yes (M := M) hB (by omega) (by omega)
      rw [decide_eq_true hM.1, decide_eq_true hM.2, Bool.and_true] at HI
      rw [hB] at h1
      obtain ⟨q1, q2, q3⟩ := (sndB_iff z n h m j).1 hB
      have z6 := bits_600 q1
      obtain ⟨n0, n3, -⟩ := (someB_iff n h).1 q2
      obtain ⟨m3, -⟩ := (jamB_iff m j).1 q3
      have HC := Lib.hid (fun k (hk : k < 16) w h1 h2 => sSend_any z v u n h m j (k * z.size) w h1 h2 n0 n3 m3 (by have := Nat.mul_le_mul (show k ≤ 15 by omega) z6; omega) z6)
      obtain ⟨g, hg⟩ : ∃ g, copG z n h m j = g := ⟨_, rfl⟩
      have HG : Hid (∀ k, cpS z n h m j (k * z.size) = g k) := Lib.hid (fun k => by rw [← hg]; rfl)
      have HGS : Hid (∀ k, (g k).size = z.size) := Lib.hid (fun k => by rw [← hg]; exact copG_size _ _ _ _ _ _)
      rw [hg] at hA
      obtain ⟨A, hAA⟩ : ∃ A, nedA z n h m j (M : Int) = A := ⟨_, rfl⟩
      rw [hAA] at hA ⊢
      have HA := Lib.hid hA
      have H1 := Lib.hid h1
      have HI := Lib.hid HI
      have HCm := Lib.hid (fun v k w (hO : Strs w v k g) (hk : k ≤ 16) => sCmb_any v k g w hO (by omega) (fun i _ => by rw [HGS.out]; omega))
      have HLs := Lib.hid (fun k w => sLost_any (cmbAns g k).1 w (by have := cmbAns_size g k; rw [HGS.out] at this; omega))
      have b0 := (Below.refl w.heap.size w).alloc (Nat.le_refl _) (.cells #[] 9)
      have O0 := SF.empty w g
      have hM16 : M ≤ 16 := by omega
      have hM1 : 1 ≤ M := by omega
      clear h1 hB hv hu q1 q2 q3 hg hA hAA hM
      go_enter Tryd.func17, Tryd.ntmps17
      go_wp2_with fail
      refine (H1.out _ HV.out HU.out).mono ?_
      rintro e w' ⟨rfl, rfl⟩
      go_wp2_with fail
      refine (HI.out _).mono ?_
      rintro e w' ⟨rfl, rfl⟩
      go_wp2
      go_loopw [9, 10] (fun o t wr => ∃ k p : Nat, Hid (k = p + 1) ∧ p ≤ M ∧ 1 ≤ k ∧ k ≤ 17 ∧ t = .int .i64 k ∧ Hid (A = ndK g (M - p) k) ∧ SF wr w.heap.size o p g ∧ Below w.heap.size w wr) (fun _ t _ => M + 1 - (intOf t).toNat)
      case atStart => exact ⟨1, 0, Lib.hid rfl, Nat.zero_le _, by omega, by omega, rfl, HA, O0, b0⟩
      case round =>
        clear b0 O0
        obtain ⟨k, p, HK, hp, hk1, hk17, rfl, HAk, rO, rb⟩ := hrel
        by_cases hlt : p < M
        · have i1 : (k : Int) ≤ (M : Int) := by have := HK.out; omega
          have i2 : (k : Int) - 1 = (p : Int) := by have := HK.out; omega
          obtain ⟨S, hS⟩ : ∃ S, p * z.size = S := ⟨_, rfl⟩
          have hS9 : S ≤ 9000 := by have := Nat.mul_le_mul (show p ≤ 15 by omega) z6; omega
          have v1 : (p : Int) * (z.size : Int) = (S : Int) := by rw [← hS, Int.natCast_mul]
          have hc := HC.out p (by omega)
          rw [HG.out p, hS] at hc
          obtain ⟨y, hy⟩ : ∃ y, g p = y := ⟨_, rfl⟩
          rw [hy] at hc
          have HE := Lib.hid hy
          have HCk := Lib.hid (hc wr (HV.out.below rb) (HU.out.below rb))
          have HLk := Lib.hid (HLs.out k)
          have HCmk := Lib.hid (fun v w (hO : Strs w v k g) => HCm.out v k w hO (by have := HK.out; omega))
          have HY := Lib.hid (fun (h : lostA (cmbAns g k).1 = 0) => show A = (k : Int) by
            rw [HAk.out, show M - p = (M - p - 1) + 1 by omega]; exact ndK_yes h)
          have HN := Lib.hid (fun (h : ¬ lostA (cmbAns g k).1 = 0) => show A = ndK g (M - (p + 1)) (k + 1) by
            rw [HAk.out, show M - p = (M - (p + 1)) + 1 by omega]; exact ndK_no h)
          obtain ⟨X, hX⟩ : ∃ X, (cmbAns g k).1 = X := ⟨_, rfl⟩
          obtain ⟨ok, hok⟩ : ∃ X, (cmbAns g k).2 = X := ⟨_, rfl⟩
          obtain ⟨L, hL⟩ : ∃ L, lostA X = L := ⟨_, rfl⟩
          simp only [hX, hok, hL] at HLk HCmk HY HN
          clear hc hy hX hok hL hS HAk
          go_wp2_with fail
          refine HCk.out.mono ?_
          rintro e w2 ⟨rfl, hb2⟩
          have b2 := below_then rb (Nat.le_refl _) hb2
          have O2 := rO.below hb2
          clear rO rb hb2
          have bs := b2.size
          go_wp2_with (at_builtin; refine wpList_append_str rfl (.tmp 29) (.tmp 39) rfl w.heap.size _ p g rfl (O2.alloc _) w2.heap.size 1 y rfl (by simp) (by omega) (by simp; omega) ?_; intro v' w3 O3 g3; have b3 : Below w.heap.size w w3 := (b2.alloc bs _).grown g3 (by simp; omega) (fun q hq => (O2.lt q hq).1); have O4 := SF.snocN O3 HE.out; clear O2 g3 b2 O3)
          have O4k : SF w3 w.heap.size v' k g := by rw [HK.out]; exact O4
          refine (HCmk.out v' _ O4k.strs).mono ?_
          rintro e w4 ⟨rfl, hb4⟩
          have b4 := below_then b3 (Nat.le_refl _) hb4
          have O5 := O4.below hb4
          clear b3 O4 hb4 O4k
          go_wp2_with fail
          refine (HLk.out _).mono ?_
          rintro e w5 ⟨rfl, rfl⟩
          by_cases hl : L = 0
          · have HX := Lib.hid (HY.out hl)
            subst hl
            go_wp2
            go_ret
            exact ⟨ret_int HX.out.symm, b4⟩
          · have HX := Lib.hid (HN.out hl)
            have hl2 : (L == 0) = false := by rw [beq_eq_false_iff_ne]; exact hl
            clear hl
            go_wp2
            go_roundw
            case rel => exact ⟨k + 1, p + 1, Lib.hid (by rw [HK.out]), by omega, by omega, by have := HK.out; omega, by go_num, HX, O5, b4⟩
            case measure => have := HK.out; simp [intOf]; omega
        · have i1 : ¬ (k : Int) ≤ (M : Int) := by have := HK.out; omega
          have HX : Hid (A = -1) := Lib.hid (by rw [HAk.out, show M - p = 0 by omega]; rfl)
          go_wp2
          go_ret
          exact ⟨ret_int HX.out.symm, rb⟩
    · have HX := Lib.hid (ned_no (z := z) (n := n) (h := h) (m := m) (j := j) (M := Mi) (fun hh => hM hh.2))
      have hb : (decide ((1 : Int) ≤ Mi) && decide (Mi ≤ 16)) = false := by
        rw [Bool.and_eq_false_iff, decide_eq_false_iff_not, decide_eq_false_iff_not]; omega
      rw [hb] at HI
      rw [hB] at h1
      have HI := Lib.hid HI
      have H1 := Lib.hid h1
      clear h1 hB hv hu hM hb
      go_enter Tryd.func17, Tryd.ntmps17
      go_wp2_with fail
      refine (H1.out _ HV.out HU.out).mono ?_
      rintro e w' ⟨rfl, rfl⟩
      go_wp2_with fail
      refine (HI.out _).mono ?_
      rintro e w' ⟨rfl, rfl⟩
      go_wp2
      go_ret
      exact ⟨ret_int HX.out.symm, Below.refl _ _⟩
end Go.Proofs.YtpacaelnmpdnhaaDoor
