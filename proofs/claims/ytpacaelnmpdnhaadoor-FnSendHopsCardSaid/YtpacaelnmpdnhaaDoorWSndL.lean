/- The walk of the law FnSendHops. -/
import Derived.Test.YtpacaelnmpdnhaaDoorCmbI
import Derived.Test.YtpacaelnmpdnhaaDoorDrawSend
import Derived.Test.YtpacaelnmpdnhaaDoorSsHas
namespace Go.Proofs.YtpacaelnmpdnhaaDoor
open Go.RowKit Go.Maps Go.Shelf
set_option linter.unusedVariables false
set_option maxRecDepth 100000
theorem SF.two (w : World) (a b : ByteArray) : SF (w.alloc (.cells #[.string a, .string b] 9)) w.heap.size (.slice (some ⟨w.heap.size, 0, none⟩) 2 2) 2 (fun i => if i = 0 then a else b) := by
  refine ⟨by simp, .inr ⟨w.heap.size, 2, #[.string a, .string b], rfl, Nat.le_refl _, ?_, Nat.le_refl _, by unfold maxLen; omega, by simp, ?_⟩⟩
  · show (w.heap.push _)[w.heap.size]? = _
    simp
  · simp [List.range_succ]
/-- What is sent, and the data itself: they never contradict each other, and together they are the data. -/
theorem cmb_sent {z : ByteArray} {n : Nat} {h : Nat → Int} {m : Nat} {j : Nat → Int} (hb : bitsB z = true) :
    cmbAns (fun i => if i = 0 then cpS z n h m j 0 else z) 2 = (z, true) := by
  have ho : okB z z.size = true := by unfold bitsB at hb; simp only [Bool.and_eq_true] at hb; exact hb.1
  have h6 := bits_600 hb
  have hs : (cpS z n h m j 0).size = z.size := strF_size _ _
  have hzb : ∀ i, i < z.size → zb (cpS z n h m j 0) i = cpF z n h m j 0 i := fun i hi => zb_strF hi (cpF_lt _ _ _ _ _ _ _)
  have hF : ∀ i, i < z.size → zb (cpS z n h m j 0) i = 63 ∨ zb (cpS z n h m j 0) i = zb z i := fun i hi => by
    rw [hzb i hi]; unfold cpF; split <;> simp
  have hc0 : cpyB (cpS z n h m j 0) = true := (cpyB_iff _).2 ⟨fun i hi => by rw [hs] at hi; have := hF i hi; have := okB_zb z ho i hi; omega, by rw [hs]; exact h6⟩
  have hc1 : cpyB z = true := (cpyB_iff _).2 ⟨fun i hi => by have := okB_zb z ho i hi; omega, h6⟩
  have hP : CmbP (fun i => if i = 0 then cpS z n h m j 0 else z) 2 := by
    refine ⟨⟨by omega, fun k hk => ?_⟩, fun k hk i hi => ?_⟩
    · by_cases e : k = 0
      · subst e; exact ⟨hc0, rfl⟩
      · simp only [if_neg e]; exact ⟨hc1, hs.symm⟩
    · obtain rfl : k = 0 := by omega
      have hi' : i < z.size := by rw [← hs]; exact hi
      show okC (zb (cpS z n h m j 0) i) (zb z i)
      rcases hF i hi' with e | e
      · exact .inl e
      · exact .inr (.inl e.symm)
  rw [cmb_yes hP]
  have : cmbS (fun i => if i = 0 then cpS z n h m j 0 else z) 2 = z := by
    unfold cmbS
    symm
    refine strF_of _ _ _ hs.symm fun i hi => ?_
    show zb z i = if zb (cpS z n h m j 0) i = 63 then zb z i else zb (cpS z n h m j 0) i
    split
    · rfl
    · rename_i h; rcases hF i (by rw [← hs]; exact hi) with e | e
      · exact absurd e h
      · exact e.symm
  rw [this]
set_option maxHeartbeats 1600000 in
theorem fnSendHops_walk (a0 : Option Addr) (len0 cap0 : Nat) (z0 : List Int) (w : World) (w0 : IsBytes w a0 len0 cap0 z0) (hd : DoorAt w) :
    Calls Tryd.prog 6 #[.slice a0 len0 cap0] w fun e w' => e = .returned (.bool true) ∧ Below w.heap.size w w' := by
  by_cases hl : 1048576 < len0
  · go_enter Tryd.func6, Tryd.ntmps6
    go_wp2
    go_ret
    exact ⟨rfl, Below.refl _ _⟩
  have HD := Lib.hid (fun w1 (b1 : Below w.heap.size w w1) => hd.below b1 hd.lt)
  clear hd
  go_enter Tryd.func6, Tryd.ntmps6
  go_wp2_with fail
  refine (drawSend_any a0 len0 cap0 z0 _ w0).mono ?_
  rintro e W1 ⟨z, v, n, h, u, m, j, rfl, hz, O1, hn, hf, P1, hm, hg, b1⟩
  have R1 := O1.ints
  have S1 := P1.ints
  clear w0 O1 P1 hf hg
  have hI := fun w hv hu => iSH_any z v n h u m j w (by omega) hv (by omega) hu (by omega)
  have hS := fun w hv hu => sSH_any z v n h u m j w (by omega) hv (by omega) hu (by omega)
  cases hB : sndB z n h m j with
  | false =>
    have hV : sndV z n h m j = ⟨#[]⟩ := by unfold sndV; rw [hB]; rfl
    simp only [hB, hV] at hI hS
    have HI := Lib.hid hI
    have HS := Lib.hid hS
    clear hI hS hB hV
    go_wp2_with fail
    refine (HI.out _ R1 S1).mono ?_
    rintro e w2 ⟨rfl, hb⟩
    have c1 := below_then b1 (Nat.le_refl _) hb
    have R2 := R1.below hb
    have S2 := S1.below hb
    clear b1 hb R1 S1
    go_wp2_with fail
    refine (HS.out _ R2 S2).mono ?_
    rintro e w3 ⟨rfl, hb⟩
    have c2 := below_then c1 (Nat.le_refl _) hb
    go_wp2
    go_ret
    exact ⟨rfl, c2⟩
  | true =>
    have hV : sndV z n h m j = cpS z n h m j 0 := by unfold sndV; rw [hB]; rfl
    simp only [hB, hV] at hI hS
    obtain ⟨q1, q2, q3⟩ := (sndB_iff z n h m j).1 hB
    obtain ⟨n0, n3, -⟩ := (someB_iff n h).1 q2
    have z6 := bits_600 q1
    have ho : okB z z.size = true := by unfold bitsB at q1; simp only [Bool.and_eq_true] at q1; exact q1.1
    have hcmb := cmb_sent (n := n) (h := h) (m := m) (j := j) q1
    have HOK := Lib.hid (okB_zb z ho)
    have hYs : (cpS z n h m j 0).size = z.size := strF_size _ _
    have HYB : Hid (∀ i, i < z.size → zb (cpS z n h m j 0) i = if isJ m j (h (i % n)) then 63 else zb z i) := Lib.hid (fun i hi => by
      have e : zb (cpS z n h m j 0) i = cpF z n h m j 0 i := zb_strF hi (cpF_lt _ _ _ _ _ _ _)
      rw [e]; unfold cpF; rw [Nat.zero_add])
    have hcy : cpyB (cpS z n h m j 0) = true := (cpyB_iff _).2 ⟨fun i hi => by
      rw [hYs] at hi; rw [HYB.out i hi]; have := okB_zb z ho i hi; split <;> omega, by rw [hYs]; exact z6⟩
    have hlo : lostA (cpS z n h m j 0) = (lstN (cpS z n h m j 0) (cpS z n h m j 0).size : Nat) := by unfold lostA; rw [hcy]; rfl
    obtain ⟨Y, hY⟩ : ∃ Y, cpS z n h m j 0 = Y := ⟨_, rfl⟩
    rw [hY] at hcmb hYs HYB hlo
    simp only [hY] at hI hS
    have HCM := Lib.hid (fun w v B (hO : SF w B v 2 (fun i => if i = 0 then Y else z)) hd => iCmb_any v B 2 (fun i => if i = 0 then Y else z) w hO (by omega) (fun i _ => by show (if i = 0 then Y else z).size ≤ 1048576; split <;> omega) hd)
    rw [hcmb] at HCM
    have HLO := Lib.hid (fun w hd => iLost_any Y w (by omega) hd)
    rw [hlo, hYs] at HLO
    have HST : Hid (∀ k, lstN Y (k + 1) = lstN Y k + (if zb Y k = 63 then 1 else 0)) := Lib.hid (fun k => rfl)
    have HLE := Lib.hid (lstN_le Y)
    have HI := Lib.hid hI
    have HS := Lib.hid hS
    have HH := Lib.hid (fun y w hu => ssHas_any u m j y w hu (by omega))
    have l0 : ¬ ((n : Int) = 0) := by omega
    have l1 : ((n : Int) == 0) = false := by rw [beq_eq_false_iff_ne]; omega
    clear hI hS hB hV q1 q2 q3 ho hcmb hcy hlo hY
    go_wp2_with fail
    refine (HI.out _ R1 S1).mono ?_
    rintro e w2 ⟨rfl, hb⟩
    have c1 := below_then b1 (Nat.le_refl _) hb
    have R2 := R1.below hb
    have S2 := S1.below hb
    clear b1 hb R1 S1 HI
    go_wp2_with fail
    refine (HS.out _ R2 S2).mono ?_
    rintro e w3 ⟨rfl, hb⟩
    have c2 := below_then c1 (Nat.le_refl _) hb
    have R3 := R2.below hb
    have S3 := S2.below hb
    clear c1 hb R2 S2 HS
    obtain ⟨av, capv, rfl, hc⟩ := R3
    have HC := Lib.hid hc
    have HU := Lib.hid S3
    clear hc S3
    go_wp2
    go_loopw [10, 11] (fun l t wr => ∃ k p : Nat, k ≤ z.size ∧ t = .int .i64 k ∧ l = .int .i64 p ∧ p ≤ k ∧ Hid (p = lstN Y k) ∧ Below w3.heap.size w3 wr ∧ Below w.heap.size w wr) (fun _ t _ => z.size - (intOf t).toNat)
    case atStart => exact ⟨0, 0, Nat.zero_le _, rfl, rfl, by omega, Lib.hid rfl, Below.refl _ _, c2⟩
    case round =>
      clear c2
      obtain ⟨k, p, hk, rfl, rfl, hpk, HP, rc, rb⟩ := hrel
      by_cases hlt : k < z.size
      · have hR := Nat.mod_lt k n0
        have t1 : (k : Int).tmod (n : Int) = ((k % n : Nat) : Int) := by rw [Int.tmod_eq_emod_of_nonneg (by omega)]; exact (Int.natCast_emod k n).symm
        have hyb := HYB.out k hlt
        obtain ⟨R, hRR⟩ : ∃ R, k % n = R := ⟨_, rfl⟩
        rw [hRR] at hR t1 hyb
        obtain ⟨x, rfl, hx, hcc⟩ := HC.out R hR
        have d0 := (rc.cell (p := x.add R) (by rw [add_block]; exact hx)).trans hcc
        have i0 : (0 : Int) ≤ (k : Int) := by omega
        have i1 : (k : Int) < (z.size : Int) := by omega
        have i2 : (k : Int) < (Y.size : Int) := by omega
        have j0 : (0 : Int) ≤ (R : Int) := by omega
        have j1 : (R : Int) < (n : Int) := by omega
        have hiy : k < Y.size := by omega
        have hzz := zb_at z k hlt
        have hzy := zb_at Y k hiy
        have hok := HOK.out k hlt
        have hh := HH.out (h R) wr (HU.out.below rc)
        cases hq : isJ m j (h R) with
        | true =>
          rw [hq] at hh
          rw [hq, if_pos rfl] at hyb
          have HP2 : Hid (p + 1 = lstN Y (k + 1)) := Lib.hid (by rw [HST.out, if_pos hyb, HP.out])
          rw [hyb] at hzy
          obtain ⟨y, hy⟩ : ∃ y, h R = y := ⟨_, rfl⟩
          rw [hy] at d0 hh
          have HHH := Lib.hid hh
          clear hh hq hy hyb hRR hok hzz
          go_wp2_with fail
          refine HHH.out.mono ?_
          rintro e w' ⟨rfl, rfl⟩
          go_wp2_with fail
          go_quiet (fail)
          have b2 := below_drewN rb nq
          have d2 := below_drewN rc nq
          clear rb rc d0
          go_wp2
          go_roundw
          case rel => exact ⟨k + 1, p + 1, by omega, by go_num, by go_num, by omega, HP2, d2, b2⟩
          case measure => simp [intOf]; omega
        | false =>
          rw [hq] at hh
          rw [hq, if_neg (by simp)] at hyb
          have HP2 : Hid (p = lstN Y (k + 1)) := Lib.hid (by rw [HST.out, if_neg (by omega), HP.out]; rfl)
          obtain ⟨B, hB⟩ : ∃ B, zb z k = B := ⟨_, rfl⟩
          rw [hyb, hB] at hzy
          rw [hB] at hzz hok
          have n1 : ((B : Int) == 63) = false := by rw [beq_eq_false_iff_ne]; omega
          have n2 : ((B : Int) != (B : Int)) = false := by rw [bne_eq_false_iff_eq]
          obtain ⟨y, hy⟩ : ∃ y, h R = y := ⟨_, rfl⟩
          rw [hy] at d0 hh
          have HHH := Lib.hid hh
          clear hh hq hy hyb hRR hok hB
          go_wp2_with fail
          refine HHH.out.mono ?_
          rintro e w' ⟨rfl, rfl⟩
          go_wp2_with fail
          go_quiet (fail)
          have b2 := below_drewN rb nq
          have d2 := below_drewN rc nq
          clear rb rc d0
          go_wp2
          go_roundw
          case rel => exact ⟨k + 1, p, by omega, by go_num, rfl, by omega, HP2, d2, b2⟩
          case measure => simp [intOf]; omega
      · obtain rfl : k = z.size := by omega
        have hp2 := HP.out
        have HLO2 := HLO.out
        rw [← hp2] at HLO2
        have HL := Lib.hid HLO2
        have b2 := rb.alloc rb.size (.cells #[.string Y, .string z] 9)
        have S2 := SF.two wr Y z
        clear hp2 HLO2 rb rc HC HU
        go_wp2_with fail
        refine (HCM.out _ _ _ S2 (HD.out _ b2)).mono ?_
        rintro e w4 ⟨rfl, hb4⟩
        have b4 := below_then b2 (Nat.le_refl _) hb4
        clear b2 hb4 S2
        go_wp2_with fail
        refine (HL.out _ (HD.out _ b4)).mono ?_
        rintro e w5 ⟨rfl, hb5⟩
        have b5 := below_then b4 (Nat.le_refl _) hb5
        go_wp2
        go_ret
        exact ⟨rfl, b5⟩
end Go.Proofs.YtpacaelnmpdnhaaDoor
