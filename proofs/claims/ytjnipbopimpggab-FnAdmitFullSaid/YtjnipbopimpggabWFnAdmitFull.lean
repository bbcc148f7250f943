/- The walk of the law FnAdmitFull. -/
import Derived.Test.YtjnipbopimpggabAdmMath
import Derived.Test.YtjnipbopimpggabDrawCel4
import Derived.BigQuiet
namespace Go.Proofs.Ytjnipbopimpggab
open Go.RowKit
set_option linter.unusedVariables false
theorem UsrsC.kept {w w' : World} {b o n cap : Nat} {f : Nat → Usr} {row : Option Nat} (h : UsrsC w (.slice (some ⟨b, o, none⟩) n cap) n f) (hg : w.grownBy w' row) (hne : some b ≠ row) : UsrsC w' (.slice (some ⟨b, o, none⟩) n cap) n f := by
  obtain ⟨a, c, e, h1, hc⟩ := h
  injection e with e1 _ e2
  subst e1 e2
  refine ⟨_, _, rfl, h1, fun i hi => ?_⟩
  obtain ⟨b', o', e, h2, h3⟩ := hc i hi
  injection e with e
  injection e with e1 e2
  subst e1 e2
  exact ⟨b, o, rfl, Nat.lt_of_lt_of_le h2 hg.size, hg.cell h3.1 hne, hg.cell h3.2.1 hne, hg.cell h3.2.2.1 hne, hg.cell h3.2.2.2 hne⟩
set_option maxHeartbeats 6400000 in
set_option maxRecDepth 100000 in
theorem fnAdmitFull_walk (a0 : Option Addr) (len0 cap0 : Nat) (z0 : List Int) (w : World) (w0 : IsBytes w a0 len0 cap0 z0) :
    Calls Try.prog 6 #[.slice a0 len0 cap0] w fun e w' => e = .returned (.bool true) ∧ Below w.heap.size w w' := by
  by_cases hl0 : 1048576 < len0
  · go_enter Try.func6, Try.ntmps6
    go_wp2
    go_ret
    exact ⟨rfl, Below.refl _ _⟩
  go_enter Try.func6, Try.ntmps6
  go_wp2_with fail
  refine (drawAdmit_any a0 len0 cap0 z0 _ w0).mono ?_
  rintro e w1 ⟨v, n, f, z, D, L, rfl, O1, hn, hf, hz, hD, hL, bc⟩
  have hsz := DrT.sz hf
  have V1 := O1.stationsC
  have HPS : Hid (∀ i, i < n → (pthF f i).size ≤ 1048576) := Lib.hid (fun i hi => by have := (hf i hi).2.1; show (f i).data.size ≤ _; omega)
  clear hf O1 w0 hD hL
  have HI := Lib.hid (fun w h => iAdm_any v n f z D L w h (by omega) hsz (by omega))
  have HS := Lib.hid (fun w h => sAdm_any v n f z D L w h (by omega) hsz (by omega))
  have HV := Lib.hid (fun w h => iCell_any v n f w h (by omega) hsz)
  have hgood := fun h => ad_good (n := n) (f := f) (z := z) (D := D) (L := L) h
  have hbad : cellB n f = false → adB n f z D L = false := fun h => ad_no (fun x => by rw [h] at x; cases x.1)
  obtain ⟨K, hK⟩ : ∃ K, adB n f z D L = K := ⟨_, rfl⟩
  rw [hK] at HI HS hgood hbad
  clear hK hsz
  obtain ⟨av, cv, rfl, -⟩ := id V1
  go_wp2_with fail
  refine (HI.out _ V1).mono ?_
  rintro e w2 ⟨vx, rfl, -, n2⟩
  have V2 := V1.below n2
  have b2 := below_then bc (Nat.le_refl _) n2
  clear bc n2
  go_wp2_with fail
  refine (HS.out _ V2).mono ?_
  rintro e w3 ⟨vy, rfl, -, n3⟩
  have V3 := V2.below n3
  have b3 := below_then b2 (Nat.le_refl _) n3
  clear V2 b2 n3
  cases hc : cellB n f with
  | false =>
    have e1 := hbad hc
    subst e1
    rw [hc] at HV
    clear hgood hbad hc
    have e0 : (false != false) = false := rfl
    go_wp2_with fail
    refine (HV.out _ V3).mono ?_
    rintro e w4 ⟨rfl, n4⟩
    have V4 := V3.below n4
    have b4 := below_then b3 (Nat.le_refl _) n4
    clear V3 b3 n4
    go_wp2_with fail
    refine (HV.out _ V4).mono ?_
    rintro e w5 ⟨rfl, n5⟩
    have b5 := below_then b4 (Nat.le_refl _) n5
    clear V4 b4 n5
    go_wp2
    go_ret
    exact ⟨rfl, b5⟩
  | true =>
    have HKE := Lib.hid (hgood hc)
    have HCE := Lib.hid hc
    rw [hc] at HV
    clear hgood hbad hc
    have e0 : (K != K) = false := by simp
    go_wp2_with fail
    refine (HV.out _ V3).mono ?_
    rintro e w4 ⟨rfl, n4⟩
    have V4 := V3.below n4
    have b4 := below_then b3 (Nat.le_refl _) n4
    have OS := SF.empty w4 (pthF f)
    have HCC : Hid (∀ i, i < n → ∃ b o : Nat, av = some ⟨b, o, none⟩ ∧ b < w4.heap.size) := by
      obtain ⟨a2, c2, e1, -, hcV⟩ := V4
      injection e1 with e1 _ e2
      subst e1 e2
      exact Lib.hid (fun i hi => by obtain ⟨b, o, h1, h2, _⟩ := hcV i hi; exact ⟨b, o, h1, h2⟩)
    have hBs := b4.size
    have hsb : w4.heap.size ≤ (w4.alloc (.cells #[] 9)).heap.size := by simp
    obtain ⟨B, hB⟩ : ∃ B, w4.heap.size = B := ⟨_, rfl⟩
    have b5 := b4.alloc b4.size (.cells #[] 9)
    have V5 := V4.below ((Below.refl _ _).alloc (Nat.le_refl _) (.cells #[] 9))
    clear V3 b3 n4 b4 V4 V1
    go_wp2_with fail
    obtain ⟨V, hV⟩ : ∃ V, w4.alloc (.cells #[] 9) = V := ⟨_, rfl⟩
    rw [hB] at HCC hBs OS
    have hsb2 : B ≤ (w4.alloc (.cells #[] 9)).heap.size := by rw [← hB]; exact hsb
    rw [hV] at OS b5 V5 hsb2 ⊢
    have HSB := Lib.hid hsb2
    have HBS := Lib.hid hBs
    clear hV hB hBs hsb hsb2
    go_loopw [11, 12, 13] (fun x kn i wr => ∃ k : Nat, k ≤ n ∧ i = .int .i64 k ∧ kn = .bool (knN f z k) ∧ SF wr B x k (pthF f) ∧ UsrsC wr (.slice av n cv) n f ∧ B ≤ wr.heap.size ∧ Below w.heap.size w wr) (fun _ _ i _ => n - (intOf i).toNat)
    case atStart => exact ⟨0, by omega, rfl, rfl, OS, V5, HSB.out, b5⟩
    case round =>
      obtain ⟨k, hk, rfl, rfl, rO, rV, rB, rb⟩ := hrel
      clear OS V5 b5
      by_cases hlt : k < n
      · obtain ⟨b, o, rfl, hx⟩ := HCC.out k hlt
        obtain ⟨a2, c2, e1, -, hcV⟩ := id rV
        injection e1 with e1 _ e2
        subst e1 e2
        obtain ⟨b', o', e1, hxw, hcc⟩ := hcV k hlt
        injection e1 with e1
        injection e1 with e1 e2
        subst e1 e2
        clear hcV
        obtain ⟨c0, c1, c2, c3⟩ := hcc
        have i0 : (0 : Int) ≤ (k : Int) := by omega
        have i1 : (k : Int) < (n : Int) := by omega
        have hkn : knN f z (k + 1) = (knN f z k || ((f k).code.toList == z.toList)) := rfl
        obtain ⟨C, hC⟩ : ∃ C, (f k).code = C := ⟨_, rfl⟩
        obtain ⟨Y, hY⟩ : ∃ C, (f k).data = C := ⟨_, rfl⟩
        rw [hC] at c0 hkn
        rw [hY] at c1
        have HY := Lib.hid (show pthF f k = Y from hY)
        obtain ⟨Kn, hKn⟩ : ∃ K, knN f z k = K := ⟨_, rfl⟩
        rw [hKn] at hkn ⊢
        have O2 := Lib.hid (rO.alloc (.cells #[.string Y] 9))
        have r2 := Lib.hid (rb.alloc rb.size (.cells #[.string Y] 9))
        have cY : Hid ((wr.alloc (.cells #[.string Y] 9)).cell? ⟨wr.heap.size, 0, none⟩ = some (.string Y)) := Lib.hid (by simp)
        have r9 : Below wr.heap.size wr (wr.alloc (.cells #[.string Y] 9)) := (Below.refl _ _).alloc (Nat.le_refl _) _
        have HRV := Lib.hid (rV.below r9)
        have k0 := (r9.cell (p := ⟨b, o + k * 4, none⟩) hxw).trans c0
        have hBr2 : B ≤ (wr.alloc (.cells #[.string Y] 9)).heap.size := by simp; omega
        obtain ⟨a3, c3', rfl, ha3⟩ := rO.form
        clear hC hY hKn rO rb rV r9
        cases Kn with
        | true =>
          have HN := Lib.hid (show knN f z (k + 1) = true by rw [hkn]; rfl)
          clear hkn
          go_wp2_with (at_builtin; refine wpList_append_str rfl (.tmp 68) (.tmp 74) rfl B (.slice a3 k c3') k (pthF f) rfl O2.out wr.heap.size 1 Y rfl cY.out (by omega) hBr2 ?_; intro v4 w4 O4 g4; have lo := fun q hq => (O2.out.lt q hq).1; have O5 := SF.grown O4 HY.out; have HB4 := Lib.hid (Nat.le_trans hBr2 g4.size); have b4 : Below w.heap.size w w4 := r2.out.grown g4 r2.out.size (fun q hq => Nat.le_trans HBS.out (lo q hq)); have V9 := HRV.out.kept g4 (fun e => by have := lo _ e.symm; omega))
          clear O2 r2 cY O4 g4 lo c0 c1 c2 c3 k0
          go_roundw
          case rel => exact ⟨k + 1, by omega, by go_num, by rw [HN.out], O5, V9, HB4.out, b4⟩
          case measure => simp [intOf]; omega
        | false =>
          cases hq : (C.toList == z.toList) with
          | true =>
            have HN := Lib.hid (show knN f z (k + 1) = true by rw [hkn, hq]; rfl)
            clear hkn
            go_wp2_with (at_builtin; refine wpList_append_str rfl (.tmp 68) (.tmp 74) rfl B (.slice a3 k c3') k (pthF f) rfl O2.out wr.heap.size 1 Y rfl cY.out (by omega) hBr2 ?_; intro v4 w4 O4 g4; have lo := fun q hq => (O2.out.lt q hq).1; have O5 := SF.grown O4 HY.out; have HB4 := Lib.hid (Nat.le_trans hBr2 g4.size); have b4 : Below w.heap.size w w4 := r2.out.grown g4 r2.out.size (fun q hq => Nat.le_trans HBS.out (lo q hq)); have V9 := HRV.out.kept g4 (fun e => by have := lo _ e.symm; omega); have hneB : some b ≠ Value.ownBlock (.slice a3 k c3') := (fun e => by have := lo _ e.symm; omega); have k9 := g4.cell k0 hneB)
            clear O2 r2 cY O4 g4 lo c0 c1 c2 c3 k0 k9
            go_roundw
            case rel => exact ⟨k + 1, by omega, by go_num, by rw [HN.out], O5, V9, HB4.out, b4⟩
            case measure => simp [intOf]; omega
          | false =>
            have HN := Lib.hid (show knN f z (k + 1) = false by rw [hkn, hq]; rfl)
            clear hkn
            go_wp2_with (at_builtin; refine wpList_append_str rfl (.tmp 68) (.tmp 74) rfl B (.slice a3 k c3') k (pthF f) rfl O2.out wr.heap.size 1 Y rfl cY.out (by omega) hBr2 ?_; intro v4 w4 O4 g4; have lo := fun q hq => (O2.out.lt q hq).1; have O5 := SF.grown O4 HY.out; have HB4 := Lib.hid (Nat.le_trans hBr2 g4.size); have b4 : Below w.heap.size w w4 := r2.out.grown g4 r2.out.size (fun q hq => Nat.le_trans HBS.out (lo q hq)); have V9 := HRV.out.kept g4 (fun e => by have := lo _ e.symm; omega); have hneB : some b ≠ Value.ownBlock (.slice a3 k c3') := (fun e => by have := lo _ e.symm; omega); have k9 := g4.cell k0 hneB)
            clear O2 r2 cY O4 g4 lo c0 c1 c2 c3 k0 k9
            go_roundw
            case rel => exact ⟨k + 1, by omega, by go_num, by rw [HN.out], O5, V9, HB4.out, b4⟩
            case measure => simp [intOf]; omega
      · obtain rfl : n = k := by omega
        have hal := fun W h => iCell_any (.slice (some ⟨wr.heap.size, 0, none⟩) 1 1) 1 (aloneU z) W h (by omega) (fun i _ => ⟨by show z.size ≤ _; omega, by show (⟨#[48]⟩ : ByteArray).size ≤ 1048576; decide⟩)
        rw [alone_cell] at hal
        have HAL := Lib.hid hal
        have UA := Lib.hid (UsrsC.one wr (aloneU z 0))
        have ba := Lib.hid (rb.alloc rb.size (.cells #[.string z, .string ⟨#[48]⟩, .int .i64 0, .int .i64 1] 30))
        have SA := Lib.hid ((rO.alloc (.cells #[.string z, .string ⟨#[48]⟩, .int .i64 0, .int .i64 1] 30)).strs)
        have HFP := Lib.hid (fun u W h => iPaths_any u n (pthF f) D W h (by omega) HPS.out)
        have hke := HKE.out
        obtain ⟨Kn, hKn⟩ : ∃ K, knN f z n = K := ⟨_, rfl⟩
        obtain ⟨A, hA⟩ : ∃ K, nameB z = K := ⟨_, rfl⟩
        obtain ⟨G, hG⟩ : ∃ K, freeAns n (pthF f) D = K := ⟨_, rfl⟩
        rw [hKn, hA, hG] at hke
        rw [hKn]
        rw [hA] at HAL
        rw [hG] at HFP
        obtain ⟨a3, c3', rfl, -⟩ := rO.form
        clear hKn hA hG hal rO rb rV
        go_wp2_with fail
        refine (HAL.out _ UA.out).mono ?_
        rintro e w8 ⟨rfl, n8⟩
        have b8 := below_then ba.out (Nat.le_refl _) n8
        have S8 := Lib.hid (SA.out.below n8)
        clear UA ba SA n8
        cases A with
        | false =>
          replace hke := hke.trans (show _ = false by simp)
          subst hke
          go_wp2
          go_ret
          exact ⟨rfl, b8⟩
        | true =>
          cases Kn with
          | true =>
            replace hke := hke.trans (show _ = false by simp)
            subst hke
            go_wp2
            go_ret
            exact ⟨rfl, b8⟩
          | false =>
            by_cases q8 : n < 8
            rotate_left
            · replace hke := hke.trans (show _ = false by rw [decide_eq_false q8]; simp)
              have q9 : ¬ (n : Int) < 8 := by omega
              subst hke
              go_wp2
              go_ret
              exact ⟨rfl, b8⟩
            have q9 : (n : Int) < 8 := by omega
            by_cases q1 : 1 ≤ L
            rotate_left
            · replace hke := hke.trans (show _ = false by rw [decide_eq_false q1]; simp)
              subst hke
              go_wp2
              go_ret
              exact ⟨rfl, b8⟩
            by_cases q2 : L ≤ 20
            rotate_left
            · replace hke := hke.trans (show _ = false by rw [decide_eq_false q2]; simp)
              subst hke
              go_wp2
              go_ret
              exact ⟨rfl, b8⟩
            by_cases qg : 0 < G
            · replace hke := hke.trans (show _ = true by rw [decide_eq_true q8, decide_eq_true q1, decide_eq_true q2, decide_eq_true qg]; rfl)
              subst hke
              go_wp2_with fail
              refine (HFP.out _ _ S8.out).mono ?_
              rintro e w9 ⟨rfl, n9⟩
              have b9 := below_then b8 (Nat.le_refl _) n9
              clear n9
              go_wp2
              go_ret
              exact ⟨rfl, b9⟩
            · have qd : decide (0 < G) = false := decide_eq_false qg
              replace hke := hke.trans (show _ = false by rw [decide_eq_false qg]; simp)
              subst hke
              go_wp2_with fail
              refine (HFP.out _ _ S8.out).mono ?_
              rintro e w9 ⟨rfl, n9⟩
              have b9 := below_then b8 (Nat.le_refl _) n9
              clear n9
              go_wp2
              go_ret
              exact ⟨rfl, b9⟩
end Go.Proofs.Ytjnipbopimpggab
