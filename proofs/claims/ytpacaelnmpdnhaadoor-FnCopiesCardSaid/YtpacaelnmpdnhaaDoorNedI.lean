/- How many copies are needed: CopiesNeeded of the program, and the walk of its exact law. -/
import Derived.Test.YtpacaelnmpdnhaaDoorNed
import Derived.Test.YtpacaelnmpdnhaaDoorIntsBig
namespace Go.Proofs.YtpacaelnmpdnhaaDoor
open Go.RowKit Go.Maps Go.Shelf
set_option linter.unusedVariables false
set_option maxRecDepth 100000
set_option maxHeartbeats 1600000 in
theorem iNed_any (z : ByteArray) (v : Value) (n : Nat) (h : Nat → Int) (u : Value) (m : Nat) (j : Nat → Int) (Mi : Int) (w : World) (hz : z.size ≤ 1048576) (hv : IntsR w v n h) (hn : n ≤ 1048576) (hu : IntsR w u m j) (hm : m ≤ 1048576) (hd : DoorAt w) :
    Calls Tryd.prog 19 #[.string z, v, u, .int .i64 Mi] w fun e w' => e = .returned (.int .i64 (nedA z n h m j Mi)) ∧ Below w.heap.size w w' := by
  have h1 := fun w h1 h2 => iSnd_any z v u n h m j w h1 h2 hn hm hz
  have HV := Lib.hid hv
  have HU := Lib.hid hu
  cases hB : sndB z n h m j with
  | false =>
    have HX := Lib.hid (ned_no (z := z) (n := n) (h := h) (m := m) (j := j) (M := Mi) (fun hh => by rw [hB] at hh; exact absurd hh.1 (by simp)))
    rw [hB] at h1
    have H1 := Lib.hid h1
    clear h1 hB hv hu
    go_enter Tryd.func19, Tryd.ntmps19
    go_wp2_with fail
    refine (H1.out _ HV.out HU.out).mono ?_
    rintro e w' ⟨rfl, rfl⟩
    go_wp2
    go_ret
    exact ⟨ret_int HX.out.symm, Below.refl _ _⟩
  | true =>
    by_cases hM : 1 ≤ Mi ∧ Mi ≤ 16
    · obtain ⟨M, rfl⟩ : ∃ M : Nat, Mi = M := ⟨Mi.toNat, by omega⟩
      have hA := ned_yes (M := M) hB (by omega) (by omega)
      rw [hB] at h1
      obtain ⟨q1, q2, q3⟩ := (sndB_iff z n h m j).1 hB
      have z6 := bits_600 q1
      obtain ⟨n0, n3, -⟩ := (someB_iff n h).1 q2
      obtain ⟨m3, -⟩ := (jamB_iff m j).1 q3
      have HO := Lib.hid (open_slots v u n m h j w hv hu n3 m3)
      have HC := Lib.hid (fun k (hk : k < 16) b D w h1 h2 => copy_any z n (k * z.size) b (lostC h m j n) D h m j w h1 h2 n0 n3 (by have := Nat.mul_le_mul (show k ≤ 15 by omega) z6; omega) z6)
      obtain ⟨g, hg⟩ : ∃ g, copG z n h m j = g := ⟨_, rfl⟩
      have HG : Hid (∀ k, cpS z n h m j (k * z.size) = g k) := Lib.hid (fun k => by rw [← hg]; rfl)
      have HGS : Hid (∀ k, (g k).size = z.size) := Lib.hid (fun k => by rw [← hg]; exact copG_size _ _ _ _ _ _)
      rw [hg] at hA
      obtain ⟨A, hAA⟩ : ∃ A, nedA z n h m j (M : Int) = A := ⟨_, rfl⟩
      rw [hAA] at hA ⊢
      have HA := Lib.hid hA
      have H1 := Lib.hid h1
      have HCm := Lib.hid (fun v B k w (hO : SF w B v k g) (hk : k ≤ 16) hd => iCmb_any v B k g w hO (by omega) (fun i _ => by rw [HGS.out]; omega) hd)
      have HLs := Lib.hid (fun k w hd => iLost_any (cmbAns g k).1 w (by have := cmbAns_size g k; rw [HGS.out] at this; omega) hd)
      have hM16 : M ≤ 16 := by omega
      have hM1 : 1 ≤ M := by omega
      have m1 : ¬ (M : Int) < 1 := by omega
      have m2 : ¬ (16 : Int) < (M : Int) := by omega
      have HD := Lib.hid (fun w1 (b1 : Below w.heap.size w w1) => hd.below b1 hd.lt)
      obtain ⟨av, capv, rfl, -⟩ := hv
      clear h1 hB hu q1 q2 q3 hg hA hAA hM hd
      go_enter Tryd.func19, Tryd.ntmps19
      go_wp2_with fail
      refine (H1.out _ HV.out HU.out).mono ?_
      rintro e w' ⟨rfl, rfl⟩
      go_wp2_with fail
      refine HO.out.mono ?_
      rintro e w1 ⟨b, D, rfl, hown, hb, hMp, hB1⟩
      have hbC := World.ownsMap.lt hown
      have hws := hB1.size
      obtain ⟨C, hC⟩ : ∃ C, w1.heap.size = C := ⟨_, rfl⟩
      rw [hC] at hbC hws
      have HMp := Lib.hid hMp
      have HCC := Lib.hid hC
      clear HO hMp hb
      go_wp2
      go_loopw [10] (fun o wr => ∃ p : Nat, p ≤ M ∧ Hid (A = ndK g (M - p) (p + 1)) ∧ SF wr C o p g ∧ SlotAt wr b n D ∧ Below w.heap.size w wr ∧ C ≤ wr.heap.size) (fun o _ => match o with | .slice _ n _ => M - n | _ => 0)
      case atStart => exact ⟨0, Nat.zero_le _, HA, SF.nil _ _ _, hown, hB1, by omega⟩
      case round =>
        clear hown hB1
        obtain ⟨p, hp, HAk, rO, rM, rb, rs⟩ := hrel
        obtain ⟨oa, oc, rfl, _⟩ := rO.form
        by_cases hlt : p < M
        · have i1 : (p : Int) < (M : Int) := by omega
          obtain ⟨S, hS⟩ : ∃ S, p * z.size = S := ⟨_, rfl⟩
          have hS9 : S ≤ 9000 := by have := Nat.mul_le_mul (show p ≤ 15 by omega) z6; omega
          have v1 : (p : Int) * (z.size : Int) = (S : Int) := by rw [← hS, Int.natCast_mul]
          have hc := HC.out p (by omega) b D wr rM HMp.out
          rw [HG.out p, hS] at hc
          obtain ⟨y, hy⟩ : ∃ y, g p = y := ⟨_, rfl⟩
          rw [hy] at hc
          have HE := Lib.hid hy
          have HCk := Lib.hid hc
          have HLk := Lib.hid (HLs.out (p + 1))
          have HCmk := Lib.hid (fun v B w (hO : SF w B v (p + 1) g) hd => HCm.out v B (p + 1) w hO (by omega) hd)
          have HY := Lib.hid (fun (h : lostA (cmbAns g (p + 1)).1 = 0) => show A = ((p + 1 : Nat) : Int) by
            rw [HAk.out, show M - p = (M - p - 1) + 1 by omega]; exact ndK_yes h)
          have HN := Lib.hid (fun (h : ¬ lostA (cmbAns g (p + 1)).1 = 0) => show A = ndK g (M - (p + 1)) (p + 1 + 1) by
            rw [HAk.out, show M - p = (M - (p + 1)) + 1 by omega]; exact ndK_no h)
          obtain ⟨X, hX⟩ : ∃ X, (cmbAns g (p + 1)).1 = X := ⟨_, rfl⟩
          obtain ⟨ok, hok⟩ : ∃ X, (cmbAns g (p + 1)).2 = X := ⟨_, rfl⟩
          obtain ⟨L, hL⟩ : ∃ L, lostA X = L := ⟨_, rfl⟩
          simp only [hX, hok, hL] at HLk HCmk HY HN
          clear hc hy hX hok hL hS HAk
          go_wp2_with fail
          refine HCk.out.mono ?_
          rintro e w2 ⟨rfl, hb2⟩
          have b2 := below_then rb (Nat.le_refl _) hb2
          have O2 := rO.below hb2
          have M2 := rM.belowC (hb2.mono rs) hbC
          have s2 : C ≤ w2.heap.size := Nat.le_trans rs hb2.size
          clear rO rb hb2 rM rs
          have bs := b2.size
          go_wp2_with (at_builtin; refine wpList_append_str rfl (.tmp 33) (.tmp 44) rfl C _ p g rfl (O2.alloc _) w2.heap.size 1 y rfl (by simp) (by omega) (by simp; omega) ?_; intro v' w3 O3 g3; have b3 : Below w.heap.size w w3 := (b2.alloc bs _).grown g3 (by simp; omega) (fun q hq => Nat.le_trans hws (O2.lt q hq).1); have bC : Below C w2 w3 := ((Below.refl C w2).alloc s2 _).grown g3 (by simp; omega) (fun q hq => (O2.lt q hq).1); have O4 := SF.snocN O3 HE.out; have M3 := M2.belowC bC hbC; have s3 : C ≤ w3.heap.size := Nat.le_trans s2 bC.size; clear O2 g3 b2 O3 M2 bC)
          refine (HCmk.out v' C _ O4 (HD.out _ b3)).mono ?_
          rintro e w4 ⟨rfl, hb4⟩
          have b4 := below_then b3 (Nat.le_refl _) hb4
          have O5 := O4.below hb4
          have M4 := M3.belowC (hb4.mono s3) hbC
          have s4 : C ≤ w4.heap.size := Nat.le_trans s3 hb4.size
          clear b3 O4 hb4 M3
          go_wp2_with fail
          refine (HLk.out _ (HD.out _ b4)).mono ?_
          rintro e w5 ⟨rfl, hb5⟩
          have b5 := below_then b4 (Nat.le_refl _) hb5
          have O6 := O5.below hb5
          have M5 := M4.belowC (hb5.mono s4) hbC
          have s5 : C ≤ w5.heap.size := Nat.le_trans s4 hb5.size
          clear b4 O5 hb5 M4
          obtain ⟨oa2, oc2, rfl, _⟩ := O6.form
          by_cases hl : L = 0
          · have HX := Lib.hid (HY.out hl)
            subst hl
            go_wp2
            go_ret
            exact ⟨ret_int HX.out.symm, b5⟩
          · have HX := Lib.hid (HN.out hl)
            have hl2 : (L == 0) = false := by rw [beq_eq_false_iff_ne]; exact hl
            clear hl
            go_wp2
            go_roundw
            case rel => exact ⟨p + 1, by omega, HX, O6, M5, b5, s5⟩
            case measure => simp; omega
        · have i1 : ¬ (p : Int) < (M : Int) := by omega
          have HX : Hid (A = -1) := Lib.hid (by rw [HAk.out, show M - p = 0 by omega]; rfl)
          go_wp2
          go_ret
          exact ⟨ret_int HX.out.symm, rb⟩
    · have HX := Lib.hid (ned_no (z := z) (n := n) (h := h) (m := m) (j := j) (M := Mi) (fun hh => hM hh.2))
      rw [hB] at h1
      have H1 := Lib.hid h1
      clear h1 hB hv hu
      by_cases m1 : Mi < 1
      · clear hM
        go_enter Tryd.func19, Tryd.ntmps19
        go_wp2_with fail
        refine (H1.out _ HV.out HU.out).mono ?_
        rintro e w' ⟨rfl, rfl⟩
        go_wp2
        go_ret
        exact ⟨ret_int HX.out.symm, Below.refl _ _⟩
      · have m2 : (16 : Int) < Mi := by omega
        clear hM
        go_enter Tryd.func19, Tryd.ntmps19
        go_wp2_with fail
        refine (H1.out _ HV.out HU.out).mono ?_
        rintro e w' ⟨rfl, rfl⟩
        go_wp2
        go_ret
        exact ⟨ret_int HX.out.symm, Below.refl _ _⟩
end Go.Proofs.YtpacaelnmpdnhaaDoor
