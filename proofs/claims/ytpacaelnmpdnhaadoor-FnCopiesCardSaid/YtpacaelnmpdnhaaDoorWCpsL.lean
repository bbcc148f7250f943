/- The walk of the law FnCopies. -/
import Derived.Test.YtpacaelnmpdnhaaDoorNedMath
import Derived.Test.YtpacaelnmpdnhaaDoorNedI
import Derived.Test.YtpacaelnmpdnhaaDoorDrawSend
namespace Go.Proofs.YtpacaelnmpdnhaaDoor
open Go.RowKit
set_option linter.unusedVariables false
set_option maxRecDepth 100000
set_option maxHeartbeats 3200000 in
theorem fnCopies_walk (a0 : Option Addr) (len0 cap0 : Nat) (z0 : List Int) (w : World) (w0 : IsBytes w a0 len0 cap0 z0) (hd : DoorAt w) :
    Calls Tryd.prog 9 #[.slice a0 len0 cap0] w fun e w' => e = .returned (.bool true) ∧ Below w.heap.size w w' := by
  by_cases hl : 1048576 < len0
  · go_enter Tryd.func9, Tryd.ntmps9
    go_wp2
    go_ret
    exact ⟨rfl, Below.refl _ _⟩
  have HD := Lib.hid (fun w1 (b1 : Below w.heap.size w w1) => hd.below b1 hd.lt)
  clear hd
  go_enter Tryd.func9, Tryd.ntmps9
  go_wp2_with fail
  refine (drawNeed_any a0 len0 cap0 z0 _ w0).mono ?_
  rintro e W1 ⟨z, v, n, h, u, m, j, Mi, rfl, hz, O1, hn, hf, P1, hm, hg, hMi, b1⟩
  have R1 := O1.intsC
  have S1 := P1.ints
  clear w0 O1 P1 hf hg
  have HNI := Lib.hid (fun w hv hu hd => iNed_any z v n h u m j Mi w (by omega) hv (by omega) hu (by omega) hd)
  have HNS := Lib.hid (fun w hv hu => sNed_any z v n h u m j Mi w (by omega) hv (by omega) hu (by omega))
  have hI := fun w hv hu => iSH_any z v n h u m j w (by omega) hv (by omega) hu (by omega)
  by_cases hy : sndB z n h m j = true ∧ 1 ≤ Mi ∧ Mi ≤ 16
  · obtain ⟨hB, hM1, hM16⟩ := hy
    obtain ⟨M, rfl⟩ : ∃ M : Nat, Mi = M := ⟨Mi.toNat, by omega⟩
    have HZ := Lib.hid (fun k (hk : k < M) => ned_iff (k := k) hB (by omega) (by omega) hk)
    rw [hB] at hI
    obtain ⟨q1, q2, q3⟩ := (sndB_iff z n h m j).1 hB
    obtain ⟨n0, n3, -⟩ := (someB_iff n h).1 q2
    have z6 := bits_600 q1
    have HSF := Lib.hid (fun k w hv => iShift_any v n h k w hv (by omega))
    rw [q2] at HSF
    have hshN : shN n h = n := by unfold shN; rw [q2]; rfl
    rw [hshN] at HSF
    have HSD : Hid (∀ k w x, IntsR w x n (shF n h ((k * z.size : Nat) : Int)) → IntsR w u m j → Calls Tryd.prog 22 #[.string z, x, u] w fun e w' => e = .returned (.tuple #[.string (copG z n h m j k), .bool true]) ∧ Below w.heap.size w w') := Lib.hid (fun k w x hx hu => by
      have hb2 : sndB z n (shF n h ((k * z.size : Nat) : Int)) m j = true := (sndB_iff _ _ _ _ _).2 ⟨q1, someB_shift _ q2, q3⟩
      have := iSH_any z x n (shF n h ((k * z.size : Nat) : Int)) u m j w (by omega) hx (by omega) hu (by omega)
      rw [hb2, show sndV z n (shF n h ((k * z.size : Nat) : Int)) m j = copG z n h m j k by unfold sndV; rw [hb2, ← cop_shift z n h m j k n0]; rfl] at this
      exact this)
    have HCG := Lib.hid (fun k (h1 : 1 ≤ k) (h2 : k ≤ 16) => cmb_yes (cop_cmb (n := n) (h := h) (m := m) (j := j) q1 h1 h2))
    obtain ⟨V, hV⟩ : ∃ V, sndV z n h m j = V := ⟨_, rfl⟩
    rw [hV] at hI
    obtain ⟨g, hg⟩ : ∃ g, copG z n h m j = g := ⟨_, rfl⟩
    have HGS : Hid (∀ k, (g k).size = z.size) := Lib.hid (fun k => by rw [← hg]; exact copG_size _ _ _ _ _ _)
    rw [hg] at HZ HSD HCG
    have HI := Lib.hid hI
    obtain ⟨A, hA⟩ : ∃ A, nedA z n h m j (M : Int) = A := ⟨_, rfl⟩
    rw [hA] at HNI HNS HZ
    have HCm := Lib.hid (fun v B k w (hO : SF w B v k g) (hk : k ≤ 16) hd => iCmb_any v B k g w hO (by omega) (fun i _ => by rw [HGS.out]; omega) hd)
    have HLs := Lib.hid (fun k w hd => iLost_any (cmbAns g k).1 w (by have := cmbAns_size g k; rw [HGS.out] at this; omega) hd)
    have m1 : ¬ (M : Int) < 1 := by omega
    have m2 : ¬ (16 : Int) < (M : Int) := by omega
    have hMM : M ≤ 16 := by omega
    have n1 : (0 : Int) < (n : Int) := by omega
    clear hI hB q1 q2 q3 hshN hV hg hA hM1 hM16
    go_wp2_with fail
    refine (HNI.out _ R1.ints S1 (HD.out _ b1)).mono ?_
    rintro e w2 ⟨rfl, hb⟩
    have b2 := below_then b1 (Nat.le_refl _) hb
    have R2 := R1.below hb
    have S2 := S1.below hb
    clear b1 hb R1 S1 HNI
    go_wp2_with fail
    refine (HNS.out _ R2.ints S2).mono ?_
    rintro e w3 ⟨rfl, hb⟩
    have b3 := below_then b2 (Nat.le_refl _) hb
    have R3 := R2.below hb
    have S3 := S2.below hb
    clear b2 hb R2 S2 HNS
    go_wp2_with fail
    refine (HI.out _ R3.ints S3).mono ?_
    rintro e w4 ⟨rfl, hb⟩
    have b4 := below_then b3 (Nat.le_refl _) hb
    have R4 := R3.below hb
    have S4 := S3.below hb
    clear b3 hb R3 S3 HI
    have b5 := b4.alloc b4.size (.cells #[] 9)
    have c5 := (Below.refl w4.heap.size w4).alloc (Nat.le_refl _) (.cells #[] 9)
    have O5 := SF.empty w4 g
    obtain ⟨av, capv, rfl, -⟩ := R4.ints
    have HR := Lib.hid R4
    have HS4 := Lib.hid S4
    have hws := b4.size
    clear b4 R4 S4
    go_wp2
    go_loopw [10, 11] (fun o t wr => ∃ p : Nat, p ≤ M ∧ t = .int .i64 p ∧ SF wr w4.heap.size o p g ∧ Below w4.heap.size w4 wr ∧ Below w.heap.size w wr) (fun _ t _ => M - (intOf t).toNat)
    case atStart => exact ⟨0, Nat.zero_le _, rfl, O5, c5, b5⟩
    case round =>
      clear b5 c5 O5
      obtain ⟨p, hp, rfl, rO, rc, rb⟩ := hrel
      obtain ⟨oa, oc, rfl, _⟩ := rO.form
      by_cases hlt : p < M
      · have i1 : (p : Int) < (M : Int) := by omega
        have hz := HZ.out p hlt
        have hsd := HSD.out p
        have hS9 : p * z.size ≤ 9000 := Nat.mul_le_mul (show p ≤ 15 by omega) z6
        have e1 : (p : Int) * (z.size : Int) = ((p * z.size : Nat) : Int) := (Int.natCast_mul _ _).symm
        obtain ⟨S, hS⟩ : ∃ S, p * z.size = S := ⟨_, rfl⟩
        rw [hS] at hS9 e1 hsd
        have hcg := HCG.out (p + 1) (by omega) (by omega)
        have HLk := Lib.hid (HLs.out (p + 1))
        have HCk := Lib.hid (fun v B w hO hd => HCm.out v B (p + 1) w hO (by omega) hd)
        rw [hcg] at HLk HCk hz
        obtain ⟨X, hX⟩ : ∃ X, cmbS g (p + 1) = X := ⟨_, rfl⟩
        rw [hX] at HLk HCk hz
        have hz2 : lostA X = 0 ↔ (0 < A ∧ A ≤ (p : Int) + 1) := hz
        have HLk2 : Hid (∀ w hd, _) := HLk
        obtain ⟨L, hL⟩ : ∃ L, lostA X = L := ⟨_, rfl⟩
        have HLL : Hid (∀ w, DoorAt w → Calls Tryd.prog 11 #[.string X] w fun e w' => e = .returned (.int .i64 L) ∧ Below w.heap.size w w') := Lib.hid (fun w hd => by have := HLk.out w hd; rw [← hL]; exact this)
        rw [hL] at hz2
        obtain ⟨y, hy⟩ : ∃ y, g p = y := ⟨_, rfl⟩
        rw [hy] at hsd
        have HE := Lib.hid hy
        have HSS := Lib.hid hsd
        have HSH := Lib.hid (HSF.out (S : Int) wr (HR.out.below rc))
        clear hz hcg hX hL hy hsd HLk HLk2 hS
        go_wp2_with fail
        refine HSH.out.mono ?_
        rintro e w5 ⟨x, rfl, OX, hb5⟩
        have b5 := below_then rb (Nat.le_refl _) hb5
        have c5 := below_then rc (Nat.le_refl _) hb5
        have O5 := rO.below hb5
        have X5 := OX.ints
        clear rb rc rO hb5 OX HSH
        go_wp2_with fail
        refine (HSS.out w5 x X5 (HS4.out.below c5)).mono ?_
        rintro e w6 ⟨rfl, hb6⟩
        have b6 := below_then b5 (Nat.le_refl _) hb6
        have c6 := below_then c5 (Nat.le_refl _) hb6
        have O6 := O5.below hb6
        clear b5 c5 O5 hb6 X5 HSS
        go_wp2_with (at_builtin; refine wpList_append_str rfl (.tmp 84) (.tmp 86) rfl w4.heap.size _ p g rfl (O6.alloc _) w6.heap.size 1 y rfl (by simp) (by omega) (by have := c6.size; simp; omega) ?_; intro v' w7 O7 g7; have b7 : Below w.heap.size w w7 := (b6.alloc b6.size _).grown g7 (by have := b6.size; simp; omega) (fun q hq => Nat.le_trans hws (O6.lt q hq).1); have c7 : Below w4.heap.size w4 w7 := (c6.alloc c6.size _).grown g7 (by have := c6.size; simp; omega) (fun q hq => (O6.lt q hq).1); have O8 := SF.snocN O7 HE.out; clear O6 b6 c6 g7 O7)
        refine (HCk.out v' _ _ O8 (HD.out _ b7)).mono ?_
        rintro e w8 ⟨rfl, hb8⟩
        have b8 := below_then b7 (Nat.le_refl _) hb8
        have c8 := below_then c7 (Nat.le_refl _) hb8
        have O9 := O8.below hb8
        clear b7 c7 O8 hb8 HCk
        by_cases hl : L = 0
        · obtain ⟨a1, a2⟩ := hz2.1 hl
          subst hl
          clear hz2
          go_wp2_with fail
          refine (HLL.out _ (HD.out _ b8)).mono ?_
          rintro e w9 ⟨rfl, hb9⟩
          have b9 := below_then b8 (Nat.le_refl _) hb9
          have c9 := below_then c8 (Nat.le_refl _) hb9
          have OA := O9.below hb9
          clear b8 c8 O9 hb9 HLL
          go_wp2
          go_roundw
          case rel => exact ⟨p + 1, by omega, by go_num, OA, c9, b9⟩
          case measure => simp [intOf]; omega
        · have hl2 : (L == 0) = false := by rw [beq_eq_false_iff_ne]; exact hl
          have a3 : ¬ (0 < A ∧ A ≤ (p : Int) + 1) := fun h => hl (hz2.2 h)
          clear hz2 hl
          by_cases a1 : 0 < A
          · have a2 : ¬ A ≤ (p : Int) + 1 := fun h => a3 ⟨a1, h⟩
            clear a3
            go_wp2_with fail
            refine (HLL.out _ (HD.out _ b8)).mono ?_
            rintro e w9 ⟨rfl, hb9⟩
            have b9 := below_then b8 (Nat.le_refl _) hb9
            have c9 := below_then c8 (Nat.le_refl _) hb9
            have OA := O9.below hb9
            clear b8 c8 O9 hb9 HLL
            go_wp2
            go_roundw
            case rel => exact ⟨p + 1, by omega, by go_num, OA, c9, b9⟩
            case measure => simp [intOf]; omega
          · clear a3
            go_wp2_with fail
            refine (HLL.out _ (HD.out _ b8)).mono ?_
            rintro e w9 ⟨rfl, hb9⟩
            have b9 := below_then b8 (Nat.le_refl _) hb9
            have c9 := below_then c8 (Nat.le_refl _) hb9
            have OA := O9.below hb9
            clear b8 c8 O9 hb9 HLL
            go_wp2
            go_roundw
            case rel => exact ⟨p + 1, by omega, by go_num, OA, c9, b9⟩
            case measure => simp [intOf]; omega
      · have i1 : ¬ (p : Int) < (M : Int) := by omega
        go_wp2
        go_ret
        exact ⟨rfl, rb⟩
  · have hA := ned_no hy
    rw [hA] at HNI HNS
    obtain ⟨V, hV⟩ : ∃ V, sndV z n h m j = V := ⟨_, rfl⟩
    obtain ⟨B, hB⟩ : ∃ B, sndB z n h m j = B := ⟨_, rfl⟩
    rw [hV] at hI
    rw [hB] at hI hy
    have HI := Lib.hid hI
    clear hI hA hV hB
    go_wp2_with fail
    refine (HNI.out _ R1.ints S1 (HD.out _ b1)).mono ?_
    rintro e w2 ⟨rfl, hb⟩
    have b2 := below_then b1 (Nat.le_refl _) hb
    have R2 := R1.below hb
    have S2 := S1.below hb
    clear b1 hb R1 S1 HNI
    go_wp2_with fail
    refine (HNS.out _ R2.ints S2).mono ?_
    rintro e w3 ⟨rfl, hb⟩
    have b3 := below_then b2 (Nat.le_refl _) hb
    have R3 := R2.below hb
    have S3 := S2.below hb
    clear b2 hb R2 S2 HNS
    go_wp2_with fail
    refine (HI.out _ R3.ints S3).mono ?_
    rintro e w4 ⟨rfl, hb⟩
    have b4 := below_then b3 (Nat.le_refl _) hb
    clear b3 hb R3 S3 HI
    cases B with
    | false =>
      clear hy
      go_wp2
      go_ret
      exact ⟨rfl, b4⟩
    | true =>
      by_cases m1 : Mi < 1
      · clear hy
        go_wp2
        go_ret
        exact ⟨rfl, b4⟩
      · have m2 : (16 : Int) < Mi := by
          rcases Int.lt_or_le 16 Mi with h | h
          · exact h
          · exact absurd ⟨rfl, by omega, h⟩ hy
        clear hy
        go_wp2
        go_ret
        exact ⟨rfl, b4⟩
end Go.Proofs.YtpacaelnmpdnhaaDoor
