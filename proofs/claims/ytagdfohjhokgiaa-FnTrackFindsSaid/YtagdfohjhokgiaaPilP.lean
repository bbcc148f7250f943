/- TrackPath of both sides. -/
import Derived.Test.YtagdfohjhokgiaaPilT
import Derived.Test.YtagdfohjhokgiaaPilK
namespace Go.Proofs.Ytagdfohjhokgiaa
open Go.RowKit
set_option linter.unusedVariables false
set_option maxRecDepth 100000
theorem tp_no {n : Nat} {f : Nat → Int} {c : ByteArray} {g k s : Int} (h : ¬ (roB n f c g k = true ∧ 0 ≤ s ∧ s ≤ 200)) : tpN n f c g k s = 0 := by
  unfold tpN
  rw [if_neg]
  intro e
  simp only [Bool.and_eq_true, decide_eq_true_eq] at e
  exact h ⟨(roB_iff _ _ _ _ _).2 ⟨e.1, e.2.1⟩, e.2.2⟩
theorem tp_yes {n : Nat} {f : Nat → Int} {c : ByteArray} {g k s : Int} (h : roB n f c g k = true) (h0 : 0 ≤ s) (h1 : s ≤ 200) : tpN n f c g k s = s.toNat + 1 := by
  obtain ⟨a, b⟩ := (roB_iff _ _ _ _ _).1 h
  unfold tpN
  rw [if_pos]
  rw [a, b, decide_eq_true h0, decide_eq_true h1]; rfl
theorem tpN_le6 (n : Nat) (f : Nat → Int) (c : ByteArray) (g k s : Int) : tpN n f c g k s ≤ 1000000 := by
  unfold tpN
  split
  · rename_i h
    simp only [Bool.and_eq_true, decide_eq_true_eq] at h
    omega
  · omega
theorem SrchOK.under {w w' : World} {b n B : Nat} {v vt : Value} {f : Nat → Int} {c : ByteArray} {G P : Nat} (h : SrchOK w b v n f vt c G P) (hb : Below B w w') (hB : b < B) : SrchOK w' b v n f vt c G P := by
  obtain ⟨h1, ⟨w0, h2, h3, h4, h5⟩, h6⟩ := h
  exact ⟨h1.below hb hB, ⟨w0, h2, h3, h4, h5.trans (hb.mono (by omega))⟩, h6⟩
theorem LoopOK.under {w w' : World} {bl bs n B : Nat} {v vt : Value} {f : Nat → Int} {c : ByteArray} {G P K : Nat} (h : LoopOK w bl bs v n f vt c G P K) (hb : Below B w w') (hB : bl < B) : LoopOK w' bl bs v n f vt c G P K := by
  obtain ⟨h1, h2, h3, h4, h5, h6, h7⟩ := h
  exact ⟨(hb.cell (p := ⟨bl, 0, none⟩) hB).trans h1, (hb.cell (p := ⟨bl, 1, none⟩) hB).trans h2, (hb.cell (p := ⟨bl, 2, none⟩) hB).trans h3, (hb.frozen (p := ⟨bl, 2, none⟩) hB).trans h4, Nat.lt_of_lt_of_le h5 hb.size, h6, h7.under hb (by omega)⟩
theorem ro_all {n : Nat} {f : Nat → Int} {c : ByteArray} {g k : Int} (h : roB n f c g k = true) (K : Nat) (hK : K < perL c g) : roB n f c g (K : Int) = true := by
  obtain ⟨a, b⟩ := (roB_iff _ _ _ _ _).1 h
  exact (roB_iff _ _ _ _ _).2 ⟨a, (offB_iff _ _ _).2 ⟨((offB_iff _ _ _).1 b).1, by omega, by omega⟩⟩
theorem OF.oneP (w : World) (y : Int) : OF (w.alloc (.cells #[.int .i64 y] 3)) w.heap.size (.slice (some ⟨w.heap.size, 0, none⟩) 1 1) 1 (fun _ => y) := by
  refine ⟨by simp, .inr ⟨w.heap.size, 1, #[.int .i64 y], rfl, Nat.le_refl _, ?_, Nat.le_refl _, by unfold maxLen; omega, rfl, rfl⟩⟩
  show (w.heap.push _)[w.heap.size]? = _
  simp
set_option maxHeartbeats 3200000 in
theorem iPath_any (v : Value) (n : Nat) (f : Nat → Int) (c : ByteArray) (g k s : Int) (w : World) (h : IntsC w v n f) (hn : n ≤ 1048576) (hc : c.size ≤ 1048576) :
    Calls Try.prog 17 #[v, .agg #[.string c, .int .i64 g], .int .i64 k, .int .i64 s] w fun e w' => ∃ u, e = .returned u ∧ OF w' w.heap.size u (tpN n f c g k s) (tpF n f c g k) ∧ Below w.heap.size w w' := by
  have HI := Lib.hid h
  cases hr : roB n f c g k with
  | false =>
    have HA := Lib.hid (fun w h => iLoop_no v n f c g k w h hn hc hr)
    rw [tp_no (by rw [hr]; simp)]
    clear hr
    obtain ⟨a, cap, rfl, -⟩ := h
    have b0 := (Below.refl w.heap.size w).alloc (Nat.le_refl _) (.cells #[.string c, .int .i64 g] 24)
    have u0 := PilAt.new w 24 c g
    go_enter Try.func17, Try.ntmps17
    go_wp2_with fail
    refine (HA.out _ (HI.out.below b0)).mono ?_
    rintro e w1 ⟨rfl, n1⟩
    have b1 := below_then b0 (Nat.le_refl _) n1
    clear n1 b0 u0
    go_wp2
    go_ret
    exact ⟨_, rfl, OF.nil _ _ _, b1⟩
  | true =>
    obtain ⟨hs, ho⟩ := (roB_iff _ _ _ _ _).1 hr
    obtain ⟨hp, k0, k1⟩ := (offB_iff _ _ _).1 ho
    obtain ⟨K, rfl⟩ : ∃ K : Nat, k = K := ⟨k.toNat, by omega⟩
    have HA := Lib.hid (fun w h => iLoop_yes v n f c g K w h hr)
    by_cases e1 : s < 0
    · rw [tp_no (by omega)]
      clear hr hs ho hp k0 k1
      obtain ⟨a, cap, rfl, -⟩ := h
      have b0 := (Below.refl w.heap.size w).alloc (Nat.le_refl _) (.cells #[.string c, .int .i64 g] 24)
      have u0 := PilAt.new w 24 c g
      go_enter Try.func17, Try.ntmps17
      go_wp2_with fail
      refine (HA.out _ (HI.out.below b0)).mono ?_
      rintro e w1 ⟨bl, bs, vt, rfl, HL, hb, n1⟩
      have b1 := below_then b0 (Nat.le_refl _) n1
      clear n1 b0 u0 hb HL
      go_wp2
      go_ret
      exact ⟨_, rfl, OF.nil _ _ _, b1⟩
    by_cases e2 : 200 < s
    · rw [tp_no (by omega)]
      clear hr hs ho hp k0 k1
      obtain ⟨a, cap, rfl, -⟩ := h
      have b0 := (Below.refl w.heap.size w).alloc (Nat.le_refl _) (.cells #[.string c, .int .i64 g] 24)
      have u0 := PilAt.new w 24 c g
      go_enter Try.func17, Try.ntmps17
      go_wp2_with fail
      refine (HA.out _ (HI.out.below b0)).mono ?_
      rintro e w1 ⟨bl, bs, vt, rfl, HL, hb, n1⟩
      have b1 := below_then b0 (Nat.le_refl _) n1
      clear n1 b0 u0 hb HL
      go_wp2
      go_ret
      exact ⟨_, rfl, OF.nil _ _ _, b1⟩
    rw [tp_yes hr (by omega) (by omega)]
    obtain ⟨S, rfl⟩ : ∃ S : Nat, s = S := ⟨s.toNat, by omega⟩
    rw [Int.toNat_natCast]
    obtain ⟨G, hG, q1, q2, -, -, -, -, -, -, -⟩ := pil_nat hp
    have hGn : g.toNat = G := by omega
    have HF : Hid (∀ i, tpF n f c g K i = (pathN n f c G (perL c g) K i : Int)) := Lib.hid (fun i => by unfold tpF; rw [hGn, Int.toNat_natCast])
    have HD := Lib.hid (fun bl bs vt J W hL hJ => iStep_any bl bs v n f vt c G (perL c g) J W hL (by omega) hJ)
    rw [hGn] at HA
    have HPL := Lib.hid (fun i => path_lt (n := n) (f := f) (c := c) (G := G) (P := perL c g) (k := K) (by omega) i)
    obtain ⟨P, hP⟩ : ∃ P, perL c g = P := ⟨_, rfl⟩
    rw [hP] at HA HF HD HPL
    have HF0 : Hid (tpF n f c g K 0 = (K : Int)) := Lib.hid (HF.out 0)
    obtain ⟨T, hT⟩ : ∃ T, tpF n f c g K = T := ⟨_, rfl⟩
    rw [hT] at HF HF0 ⊢
    clear hr hs ho hp k0 k1 hG hGn hP hT
    obtain ⟨a, cap, rfl, -⟩ := h
    have b0 := (Below.refl w.heap.size w).alloc (Nat.le_refl _) (.cells #[.string c, .int .i64 g] 24)
    have u0 := PilAt.new w 24 c g
    go_enter Try.func17, Try.ntmps17
    go_wp2_with fail
    refine (HA.out _ (HI.out.below b0)).mono ?_
    rintro e w1 ⟨bl, bs, vt, rfl, HL, hb, n1⟩
    have BB := Lib.hid (below_then b0 (Nat.le_refl _) n1)
    have hbl : w.heap.size ≤ bl := Nat.le_trans (by simp) hb
    have hbw : bl < w1.heap.size := HL.2.2.2.2.1
    have HO0 := Lib.hid ((OF.oneP w1 (K : Int)).congr (g := T) (fun j hj => by obtain rfl : j = 0 := by omega
                                                                               exact HF0.out.symm))
    have k0 : Below w1.heap.size w1 (w1.alloc (.cells #[.int .i64 (K : Int)] 3)) := (Below.refl _ _).alloc (Nat.le_refl _) _
    have HL0 := Lib.hid (HL.below k0)
    have HK0 := Lib.hid (BB.out.alloc BB.out.size (.cells #[.int .i64 (K : Int)] 3))
    have HP0 := Lib.hid (rfl : pathN n f c G P K 0 = K)
    clear n1 b0 u0 hb HL k0
    go_wp2_with fail
    go_loopw [11, 32] (fun x i wr => ∃ j : Nat, j ≤ S ∧ i = .int .i64 (j : Int) ∧ OF wr w1.heap.size x (j + 1) T ∧ LoopOK wr bl bs (.slice a n cap) n f vt c G P (pathN n f c G P K j) ∧ Below w.heap.size w wr ∧ w1.heap.size ≤ wr.heap.size) (fun _ i _ => S - (intOf i).toNat)
    case atStart => exact ⟨0, by omega, rfl, HO0.out, HL0.out, HK0.out, by simp⟩
    case round =>
      obtain ⟨j, hj, rfl, rO, rL, rb, rz⟩ := hrel
      by_cases hlt : j < S
      · have i0 : (0 : Int) ≤ (j : Int) := by omega
        have i1 : (j : Int) < (S : Int) := by omega
        have hpl := HPL.out j
        have hD := fun w h => HD.out bl bs vt (pathN n f c G P K j) w h hpl
        have hst : pathN n f c G P K (j + 1) = stN n f c G P (pathN n f c G P K j) := rfl
        have hf := HF.out (j + 1)
        rw [← hst] at hD
        obtain ⟨J, hJ⟩ : ∃ J, pathN n f c G P K (j + 1) = J := ⟨_, rfl⟩
        rw [hJ] at hD hf
        have HDD := Lib.hid hD
        have HFF := Lib.hid hf
        have HJ := Lib.hid hJ
        have HRL := Lib.hid rL
        clear hD hf hst hJ hpl rL
        go_wp2_with fail
        refine (HDD.out _ HRL.out).mono ?_
        rintro e w2 ⟨rfl, HL2, g2⟩
        have O2 := rO.kept g2 (by
          cases hv : u11.ownBlock with
          | none => exact .inl rfl
          | some q => right; intro e; cases e; have := (rO.lt _ hv).1; omega)
        have r2 : Below w.heap.size w w2 := rb.grown g2 rb.size (fun q hq => by cases hq; omega)
        have z2 : w1.heap.size ≤ w2.heap.size := Nat.le_trans rz g2.size
        have HL2' := Lib.hid HL2
        clear rO rb rz g2 HRL HL2
        go_wp2_with (at_builtin; refine wpList_append_int rfl (.tmp 34) (.tmp 37) rfl w1.heap.size _ (j + 1) T rfl (O2.alloc _) w2.heap.size 1 (J : Int) rfl (by simp) (by omega) (by simp; omega) ?_; intro v' w5 O5 g5)
        have O6 := Lib.hid (show OF w5 w1.heap.size v' (j + 1 + 1) T from O5.congr (fun i hi => by
          by_cases e : i < j + 1
          · rw [if_pos e]
          · rw [if_neg e, ← HFF.out]; congr 1; omega))
        have k2 : Below w1.heap.size w2 w5 := ((Below.refl _ _).alloc z2 _).grown g5 (by simp; omega) (fun q hq => (O2.lt q hq).1)
        have r5 : Below w.heap.size w w5 := r2.trans (k2.mono (by have := BB.out.size; omega))
        have HL5 := Lib.hid (HL2'.out.under k2 hbw)
        have z5 : w1.heap.size ≤ w5.heap.size := Nat.le_trans z2 k2.size
        clear O5 O2 g5 r2 k2 HL2' z2
        go_wp2
        go_roundw
        case rel => exact ⟨j + 1, by omega, by go_num, O6.out, by rw [HJ.out]; exact HL5.out, r5, z5⟩
        case measure => simp [intOf]; omega
      · obtain rfl : j = S := by omega
        have HOF := Lib.hid (rO.mono BB.out.size)
        clear rO rL
        go_wp2
        go_ret
        exact ⟨_, rfl, HOF.out, rb⟩
end Go.Proofs.Ytagdfohjhokgiaa
