/- WorstCollisions of both sides, and the walk of its exact law. -/
import Derived.Test.YtbllmgdnhjdphacHopMath
import Derived.Test.YtbllmgdnhjdphacIntss
namespace Go.Proofs.Ytbllmgdnhjdphac
open Go.RowKit
set_option linter.unusedVariables false
set_option maxRecDepth 100000
def wcOK (L : Nat) (N : Nat → Nat) (F : Nat → Nat → Int) : Bool := (List.range L).all fun i => pairHB (N i) (N 0) (F i) (F 0)
theorem wcOK_iff (L : Nat) (N : Nat → Nat) (F : Nat → Nat → Int) : wcOK L N F = true ↔ ∀ i, i < L → pairHB (N i) (N 0) (F i) (F 0) = true := by
  unfold wcOK
  simp only [List.all_eq_true, List.mem_range]
theorem wcOK_no {L : Nat} {N : Nat → Nat} {F : Nat → Nat → Int} {i : Nat} (hi : i < L) (h : pairHB (N i) (N 0) (F i) (F 0) = false) : wcOK L N F = false := by
  rw [Bool.eq_false_iff]
  intro h'
  rw [(wcOK_iff L N F).1 h' i hi] at h
  exact absurd h (by decide)
def wcV (L : Nat) (N : Nat → Nat) (F : Nat → Nat → Int) : Int := if decide (L ≤ 8) && wcOK L N F then (mk3 (wcI L F (N 0)) L : Nat) else -1
theorem wc_no1 {L : Nat} {N : Nat → Nat} {F : Nat → Nat → Int} (h : ¬ L ≤ 8) : wcV L N F = -1 := by unfold wcV; rw [decide_eq_false h]; rfl
theorem wc_no2 {L : Nat} {N : Nat → Nat} {F : Nat → Nat → Int} {i : Nat} (hi : i < L) (h : pairHB (N i) (N 0) (F i) (F 0) = false) : wcV L N F = -1 := by unfold wcV; rw [wcOK_no hi h, Bool.and_false]; rfl
theorem wc_yes {L : Nat} {N : Nat → Nat} {F : Nat → Nat → Int} (h : L ≤ 8) (h2 : ∀ i, i < L → pairHB (N i) (N 0) (F i) (F 0) = true) : wcV L N F = (mk3 (wcI L F (N 0)) L : Nat) := by unfold wcV; rw [decide_eq_true h, (wcOK_iff L N F).2 h2]; rfl
theorem pairHB_len {n m : Nat} {f g : Nat → Int} (h : pairHB n m f g = true) : n = m ∧ 0 < n ∧ n ≤ 300 := by
  obtain ⟨h1, _, h3⟩ := (pairHB_iff n m f g).1 h
  obtain ⟨h4, h5, _⟩ := (someB_iff n f).1 h1
  exact ⟨h3, h4, h5⟩
theorem colV_neg {n m : Nat} {f g : Nat → Int} {k : Int} (h : pairHB n m f g = false) : colV n m f g k = -1 := by unfold colV; rw [h]; rfl
theorem colV_pos {n m : Nat} {f g : Nat → Int} {k : Int} (h : pairHB n m f g = true) : 0 ≤ colV n m f g k := by unfold colV; rw [h]; simp
theorem mk3_succ (v : Nat → Nat) (k : Nat) : mk3 v (k + 1) = max (mk3 v k) (v k) := rfl
theorem mk3_bd {v : Nat → Nat} {X : Nat} (h : ∀ k, v k ≤ X) (n : Nat) : mk3 v n ≤ X := (mk3_le n).2 (fun k _ => h k)
theorem wcK_bd (F : Nat → Nat → Int) (n i j : Nat) : wcK F n i j ≤ n := mk3_bd (fun k => mtC_le _ _ _) _
theorem wcI_bd (L : Nat) (F : Nat → Nat → Int) (n i : Nat) : wcI L F n i ≤ n := mk3_bd (fun d => wcK_bd F n i _) _
theorem wcS_bd (F : Nat → Nat → Int) (n i : Nat) : wcS F n i ≤ n := mk3_bd (fun d => wcK_bd F n i _) _
theorem intss_elem (w : World) : (sizeOf (Try.prog.elem 23)).run Try.prog w = .ok 1 w := by kernel_rfl
theorem tailSS {w : World} {v : Value} {L : Nat} {N : Nat → Nat} {F : Nat → Nat → Int} (h : IIR w v L N F) (l : Nat) (hl : l ≤ L) : ∃ a' cap', (∀ w1, (Instr.sliceAt 23 v (some (.int .i64 (l : Int))) none none).run Try.prog w1 = .ok (.slice a' (L - l) cap') w1) ∧
    IIR w (.slice a' (L - l) cap') (L - l) (fun i => N (l + i)) (fun i => F (l + i)) := by
  obtain ⟨a, cap, rfl, hcap, hc⟩ := h
  refine ⟨if cap = l then a else a.map (·.add (l * 1)), cap - l, fun w1 => ?_, ?_⟩
  · rw [run_sliceAt_slice w1 23 _ _ _ _ (by kernel_rfl), run_slice_l w1 23 a L cap (by kernel_rfl) .i64 _ (by omega) (by omega), intss_elem]
    simp [Result.andThen, sliced]
  · refine ⟨_, _, rfl, by omega, fun i hi => ?_⟩
    obtain ⟨x, u, rfl, h1, h2, h3⟩ := hc (l + i) (by omega)
    refine ⟨x.add l, u, by rw [if_neg (by omega)]; simp, by rw [add_block]; exact h1, ?_, h3⟩
    rw [addr_plus]; exact h2
set_option maxHeartbeats 3200000 in
theorem iWorst_any (v : Value) (L : Nat) (N : Nat → Nat) (F : Nat → Nat → Int) (w : World) (h : IIR w v L N F) (hL : L ≤ 1048576) (hN : ∀ i, i < L → N i ≤ 1048576) :
    Calls Try.prog 9 #[v] w fun e w' => e = .returned (.int .i64 (wcV L N F)) ∧ Below w.heap.size w w' := by
  have HTL := Lib.hid (fun l hl => tailSS h l hl)
  obtain ⟨a, cap, rfl, hcap, hc⟩ := h
  by_cases h8 : L ≤ 8
  · have HC := Lib.hid hc
    have HNO := Lib.hid (fun i (hi : i < L) (h : pairHB (N i) (N 0) (F i) (F 0) = false) => wc_no2 hi h)
    have HYES := Lib.hid (fun (h2 : ∀ i, i < L → pairHB (N i) (N 0) (F i) (F 0) = true) => wc_yes (N := N) (F := F) h8 h2)
    have HP := Lib.hid (fun i (hi : i < L) u v w h1 h2 => iPairH_any u v (N i) (N 0) (F i) (F 0) w h1 h2 (hN i hi) (hN 0 (by omega)))
    have l0 : ¬ ((8 : Int) < (L : Int)) := by omega
    clear hc hN
    go_enter Try.func9, Try.ntmps9
    go_wp2
    go_loop [16] (fun t => ∃ k : Nat, k ≤ L ∧ t = .int .i64 k ∧ Hid (∀ i, i < k → pairHB (N i) (N 0) (F i) (F 0) = true)) (fun t => L - (intOf t).toNat)
    case atStart => exact ⟨0, Nat.zero_le _, rfl, Lib.hid (fun i hi => absurd hi (Nat.not_lt_zero i))⟩
    case round =>
      obtain ⟨k, hk, rfl, rA⟩ := hrel
      by_cases hlt : k < L
      · obtain ⟨x, u, rfl, hx, c0, hu⟩ := HC.out k hlt
        obtain ⟨x', u0, e0, hx', c1, hu0⟩ := HC.out 0 (by omega)
        injection e0 with e0
        subst e0
        have i0 : (0 : Int) ≤ (k : Int) := by omega
        have i1 : (k : Int) < (L : Int) := by omega
        have i2 : (0 : Int) < (L : Int) := by omega
        have hp := HP.out k hlt u u0 w hu.ints hu0.ints
        have c1' : w.cell? x = some u0 := by have := c1; rwa [show x.add 0 = x from rfl] at this
        cases hq : pairHB (N k) (N 0) (F k) (F 0) with
        | true =>
          rw [hq] at hp
          have HPP := Lib.hid hp
          have nA : Hid (∀ i, i < k + 1 → pairHB (N i) (N 0) (F i) (F 0) = true) := Lib.hid (fun i hi => by
            rcases Nat.lt_or_ge i k with h | h
            · exact rA.out i h
            · rw [show i = k by omega]; exact hq)
          clear hp hq rA hu hu0 hx hx'
          go_wp2_with fail
          refine HPP.out.mono ?_
          rintro e w' ⟨rfl, rfl⟩
          go_wp2
          go_round
          case rel => exact ⟨k + 1, by omega, by go_num, nA⟩
          case measure => simp [intOf]; omega
        | false =>
          rw [hq] at hp
          have HPP := Lib.hid hp
          have HE := Lib.hid (HNO.out k hlt hq)
          clear hp hq rA hu hu0 hx hx'
          go_wp2_with fail
          refine HPP.out.mono ?_
          rintro e w' ⟨rfl, rfl⟩
          go_wp2
          go_ret
          exact ⟨ret_int HE.out.symm, Below.refl _ _⟩
      · obtain rfl : k = L := by omega
        have HE := Lib.hid (HYES.out rA.out)
        have HLEN : Hid (∀ i, i < k → N i = N 0 ∧ 0 < N i ∧ N i ≤ 300) := Lib.hid (fun i hi => pairHB_len (rA.out i hi))
        obtain ⟨n, hn⟩ : ∃ n, N 0 = n := ⟨_, rfl⟩
        rw [hn] at HE HLEN
        have HWI := Lib.hid (fun i => wcI_bd k F n i)
        have HWK := Lib.hid (fun i j => wcK_bd F n i j)
        have HMT := Lib.hid (fun i j (q : Nat) => mtC_le (F i) (shF n (F j) (q : Int)) n)
        have HST := Lib.hid (fun i => mk3_succ (wcI k F n) i)
        have HSD := Lib.hid (fun i d => mk3_succ (fun d => wcK F n i (i + 1 + d)) d)
        have HSK := Lib.hid (fun i j q => mk3_succ (fun q => mtC (F i) (shF n (F j) (q : Int)) n) q)
        have HDI := Lib.hid (fun i => show wcI k F n i = mk3 (fun d => wcK F n i (i + 1 + d)) (k - (i + 1)) from rfl)
        have HDK := Lib.hid (fun i j => show wcK F n i j = mk3 (fun q => mtC (F i) (shF n (F j) (q : Int)) n) n from rfl)
        clear rA HNO HYES HP hn
        go_wp2
        go_loopw [5, 29] (fun m t wr => ∃ i : Nat, i ≤ k ∧ t = .int .i64 i ∧ m = .int .i64 (mk3 (wcI k F n) i : Nat) ∧ Below w.heap.size w wr) (fun _ t _ => k - (intOf t).toNat)
        case atStart => exact ⟨0, Nat.zero_le _, rfl, rfl, Below.refl _ _⟩
        case round =>
          obtain ⟨i, hi, rfl, rfl, rb⟩ := hrel
          by_cases hil : i < k
          · obtain ⟨x, u, rfl, hx, c0, hu⟩ := HC.out i hil
            have c0' := (rb.cell (p := x.add i) (by rw [add_block]; exact hx)).trans c0
            obtain ⟨e1, e2, e3⟩ := HLEN.out i hil
            rw [e1] at e2 e3
            have i0 : (0 : Int) ≤ (i : Int) := by omega
            have i1 : (i : Int) < (k : Int) := by omega
            obtain ⟨a2, cap2, t1, t2⟩ := HTL.out (i + 1) (by omega)
            rw [show ((i + 1 : Nat) : Int) = (i : Int) + 1 by omega] at t1
            obtain ⟨a2', cap2', e4, -, t3⟩ := t2
            injection e4 with e4 _ _
            subst e4
            have HT3 := Lib.hid t3
            have HU : Hid (IntsR w u n (F i)) := Lib.hid (by rw [← e1]; exact hu.ints)
            have hst := HST.out i
            have hdi := HDI.out i
            have hA := mk3_bd (fun q => HWI.out q) i
            obtain ⟨A, hAA⟩ : ∃ A, mk3 (wcI k F n) i = A := ⟨_, rfl⟩
            rw [hAA] at hst hA ⊢
            have HSTI : Hid (mk3 (wcI k F n) (i + 1) = max A (mk3 (fun d => wcK F n i (i + 1 + d)) (k - (i + 1)))) := Lib.hid (by rw [hst, hdi])
            obtain ⟨M, hM⟩ : ∃ M, k - (i + 1) = M := ⟨_, rfl⟩
            rw [hM] at t1 HT3 HSTI
            have hM8 : M ≤ 8 := by omega
            have HMM := Lib.hid hM
            have RB := Lib.hid rb
            clear hst hdi hAA t3 hM rb hu hx c0 e1
            go_wp2
            go_loopw [5, 39] (fun m t wx => ∃ d : Nat, d ≤ M ∧ t = .int .i64 d ∧ m = .int .i64 (max A (mk3 (fun d => wcK F n i (i + 1 + d)) d) : Nat) ∧ Below w.heap.size w wx) (fun _ t _ => M - (intOf t).toNat)
            case atStart => exact ⟨0, Nat.zero_le _, rfl, by simp [mk3], RB.out⟩
            case round =>
              obtain ⟨d, hd, rfl, rfl, qb⟩ := hrel
              clear RB c0' t1
              by_cases hdl : d < M
              · obtain ⟨x3, u3, rfl, hx3, c3, hu3⟩ := HT3.out d hdl
                have c3' := (qb.cell (p := x3.add d) (by rw [add_block]; exact hx3)).trans c3
                have hJ : i + 1 + d < k := by have := HMM.out; omega
                obtain ⟨f1, -, -⟩ := HLEN.out (i + 1 + d) hJ
                have d0 : (0 : Int) ≤ (d : Int) := by omega
                have d1 : (d : Int) < (M : Int) := by omega
                have hu3' : IntsC w u3 n (F (i + 1 + d)) := by have := hu3; rwa [show N (i + 1 + d) = n from f1] at this
                have HU3 := Lib.hid hu3'
                have hsd := HSD.out i d
                have hdk := HDK.out i (i + 1 + d)
                have hB := mk3_bd (fun q => HWK.out i (i + 1 + q)) d
                obtain ⟨J, hJJ⟩ : ∃ J, i + 1 + d = J := ⟨_, rfl⟩
                rw [hJJ] at hsd hdk HU3
                obtain ⟨B, hBB⟩ : ∃ B, mk3 (fun d => wcK F n i (i + 1 + d)) d = B := ⟨_, rfl⟩
                rw [hBB] at hsd hB ⊢
                have HSDI : Hid (mk3 (fun d => wcK F n i (i + 1 + d)) (d + 1) = max B (mk3 (fun q => mtC (F i) (shF n (F J) (q : Int)) n) n)) := Lib.hid (by rw [hsd, hdk])
                obtain ⟨a3, cap3, rfl, hc3⟩ : ∃ a3 cap3, u3 = .slice a3 n cap3 ∧ True := by
                  obtain ⟨a3, cap3, e, _⟩ := hu3'
                  exact ⟨a3, cap3, e, trivial⟩
                have hmAB : max A B ≤ n := by omega
                obtain ⟨Y, hY⟩ : ∃ Y, max A B = Y := ⟨_, rfl⟩
                rw [hY] at hmAB ⊢
                have HY := Lib.hid hY
                have QB := Lib.hid qb
                clear hsd hdk hBB hJJ hu3 hu3' hx3 c3 qb f1 hJ hY hc3 hA hB
                go_wp2
                go_loopw [5, 45] (fun m t wy => ∃ q : Nat, q ≤ n ∧ t = .int .i64 q ∧ m = .int .i64 (max Y (mk3 (fun q => mtC (F i) (shF n (F J) (q : Int)) n) q) : Nat) ∧ Below w.heap.size w wy) (fun _ t _ => n - (intOf t).toNat)
                case atStart => exact ⟨0, Nat.zero_le _, rfl, by simp [mk3], QB.out⟩
                case round =>
                  obtain ⟨q, hq, rfl, rfl, pb⟩ := hrel
                  clear QB c3'
                  by_cases hql : q < n
                  · have q0 : (0 : Int) ≤ (q : Int) := by omega
                    have q1 : (q : Int) < (n : Int) := by omega
                    have HLT := Lib.hid (later_any (.slice a3 n cap3) n (F J) (q : Int) _ (HU3.out.below pb) e2 e3)
                    have HUU : Hid (∀ w' : World, Below wr.heap.size wr w' → IntsR w' u n (F i)) := Lib.hid (fun w' h => HU.out.below (below_then pb (Nat.le_refl _) h))
                    have hsk := HSK.out i J q
                    have hmt := HMT.out i J q
                    have hC := mk3_bd (fun q => HMT.out i J q) q
                    have HCL := Lib.hid (fun v w h1 h2 => coll_any u v n n (F i) (shF n (F J) (q : Int)) w h1 h2 e3 (Nat.le_refl _))
                    obtain ⟨G, hG⟩ : ∃ G, shF n (F J) (q : Int) = G := ⟨_, rfl⟩
                    rw [hG] at HLT HCL hmt hsk
                    obtain ⟨T, hT⟩ : ∃ T, mtC (F i) G n = T := ⟨_, rfl⟩
                    rw [hT] at HCL hmt hsk
                    obtain ⟨C, hCC⟩ : ∃ C, mk3 (fun q => mtC (F i) (shF n (F J) (q : Int)) n) q = C := ⟨_, rfl⟩
                    rw [hCC] at hsk hC ⊢
                    have HSKI := Lib.hid hsk
                    obtain ⟨Z, hZ⟩ : ∃ Z, max Y C = Z := ⟨_, rfl⟩
                    have hZn : Z ≤ n := by rw [← hZ]; omega
                    rw [hZ]
                    have HZ := Lib.hid hZ
                    have PB := Lib.hid pb
                    clear hsk hG hT hCC hZ pb hC
                    by_cases hTZ : T ≤ Z
                    · have t0 : (T : Int) ≤ (Z : Int) := by omega
                      have t1 : ¬ ((Z : Int) < (T : Int)) := by omega
                      have HFIN : Hid (max Y (max C T) = Z) := Lib.hid (by have := HZ.out; omega)
                      go_wp2_with fail
                      refine HLT.out.mono ?_
                      rintro e w5 ⟨y, rfl, O5, b5⟩
                      have b6 := Lib.hid (below_then PB.out (Nat.le_refl _) b5)
                      have hcl := Lib.hid (HCL.out y w5 (HUU.out w5 b5) O5.ints)
                      clear O5 b5 HLT HUU HCL
                      go_wp2_with fail
                      refine hcl.out.mono ?_
                      rintro e w' ⟨rfl, rfl⟩
                      go_wp2
                      all_goals first
                        | (go_roundw
                           case rel => exact ⟨q + 1, by omega, by go_num, by rw [HSKI.out, HFIN.out], b6.out⟩
                           case measure => simp [intOf]; omega)
                        | (exfalso; omega)
                    · have t0 : (Z : Int) < (T : Int) := by omega
                      have t1 : ¬ ((T : Int) ≤ (Z : Int)) := by omega
                      have HFIN : Hid (max Y (max C T) = T) := Lib.hid (by have := HZ.out; omega)
                      go_wp2_with fail
                      refine HLT.out.mono ?_
                      rintro e w5 ⟨y, rfl, O5, b5⟩
                      have b6 := Lib.hid (below_then PB.out (Nat.le_refl _) b5)
                      have hcl := Lib.hid (HCL.out y w5 (HUU.out w5 b5) O5.ints)
                      clear O5 b5 HLT HUU HCL
                      go_wp2_with fail
                      refine hcl.out.mono ?_
                      rintro e w' ⟨rfl, rfl⟩
                      go_wp2
                      all_goals first
                        | (go_roundw
                           case rel => exact ⟨q + 1, by omega, by go_num, by rw [HSKI.out, HFIN.out], b6.out⟩
                           case measure => simp [intOf]; omega)
                        | (exfalso; omega)
                  · obtain rfl : q = n := by omega
                    have HFIN : Hid (max Y (mk3 (fun q' => mtC (F i) (shF q (F J) (q' : Int)) q) q) = max A (mk3 (fun d => wcK F q i (i + 1 + d)) (d + 1))) := Lib.hid (by rw [HSDI.out, ← HY.out, Nat.max_assoc])
                    go_wp2
                    go_roundw
                    case rel => exact ⟨d + 1, by omega, by go_num, by rw [HFIN.out], pb⟩
                    case measure => simp [intOf]; omega
              · obtain rfl : d = M := by omega
                go_wp2
                go_roundw
                case rel => exact ⟨i + 1, by omega, by go_num, by rw [HSTI.out], qb⟩
                case measure => simp [intOf]; omega
          · obtain rfl : i = k := by omega
            go_wp2
            go_ret
            exact ⟨ret_int HE.out.symm, rb⟩
  · rw [wc_no1 h8]
    have l0 : (8 : Int) < (L : Int) := by omega
    clear hc hN HTL
    go_enter Try.func9, Try.ntmps9
    go_wp2
    go_ret
    exact ⟨rfl, Below.refl _ _⟩
theorem wc_yes_s {L : Nat} {N : Nat → Nat} {F : Nat → Nat → Int} (h : L ≤ 8) (h2 : ∀ i, i < L → pairHB (N i) (N 0) (F i) (F 0) = true) : wcV L N F = (mk3 (wcS F (N 0)) L : Nat) := by rw [wc_yes h h2, wc_same]
set_option maxHeartbeats 3200000 in
theorem sWorst_any (v : Value) (L : Nat) (N : Nat → Nat) (F : Nat → Nat → Int) (w : World) (h : IIR w v L N F) (hL : L ≤ 1048576) (hN : ∀ i, i < L → N i ≤ 1048576) :
    Calls Try.prog 10 #[v] w fun e w' => e = .returned (.int .i64 (wcV L N F)) ∧ Below w.heap.size w w' := by
  obtain ⟨a, cap, rfl, hcap, hc⟩ := h
  by_cases h8 : L ≤ 8
  · have HC := Lib.hid hc
    have HNO := Lib.hid (fun i (hi : i < L) (h : pairHB (N i) (N 0) (F i) (F 0) = false) => wc_no2 hi h)
    have HYES := Lib.hid (fun (h2 : ∀ i, i < L → pairHB (N i) (N 0) (F i) (F 0) = true) => wc_yes_s (N := N) (F := F) h8 h2)
    have HP := Lib.hid (fun i (hi : i < L) u v w h1 h2 => sColl_any u v (N i) (N 0) (F i) (F 0) 0 w h1 h2 (hN i hi) (hN 0 (by omega)))
    have l0 : ¬ ((8 : Int) < (L : Int)) := by omega
    have HMT := Lib.hid (fun i j (q : Nat) => mtC_le (F i) (shF (N 0) (F j) (q : Int)) (N 0))
    have HWS := Lib.hid (fun i => wcS_bd F (N 0) i)
    have HWK := Lib.hid (fun i j => wcK_bd F (N 0) i j)
    have HST := Lib.hid (fun i => mk3_succ (wcS F (N 0)) i)
    have HSD := Lib.hid (fun i d => mk3_succ (fun j => wcK F (N 0) i j) d)
    have HSK := Lib.hid (fun i j q => mk3_succ (fun q => mtC (F i) (shF (N 0) (F j) (q : Int)) (N 0)) q)
    have HDI := Lib.hid (fun i => show wcS F (N 0) i = mk3 (fun j => wcK F (N 0) i j) i from rfl)
    have HDK := Lib.hid (fun i j => show wcK F (N 0) i j = mk3 (fun q => mtC (F i) (shF (N 0) (F j) (q : Int)) (N 0)) (N 0) from rfl)
    have HCOL : Hid (∀ i, pairHB (N i) (N 0) (F i) (F 0) = false → colV (N i) (N 0) (F i) (F 0) 0 = -1) := Lib.hid (fun i h => colV_neg h)
    have HCOP : Hid (∀ i, pairHB (N i) (N 0) (F i) (F 0) = true → 0 ≤ colV (N i) (N 0) (F i) (F 0) 0) := Lib.hid (fun i h => colV_pos h)
    obtain ⟨n, hn⟩ : ∃ n, N 0 = n := ⟨_, rfl⟩
    have HN0 := Lib.hid hn
    rw [hn] at HMT HWS HWK HST HSD HSK HDI HDK
    clear hc hN hn
    go_enter Try.func10, Try.ntmps10
    go_wp2
    go_loopw [3, 4] (fun m t wr => ∃ i : Nat, i ≤ L ∧ t = .int .i64 i ∧ m = .int .i64 (mk3 (wcS F n) i : Nat) ∧ Below w.heap.size w wr ∧ Hid (∀ j, j < i → pairHB (N j) (N 0) (F j) (F 0) = true)) (fun _ t _ => L - (intOf t).toNat)
    case atStart => exact ⟨0, Nat.zero_le _, rfl, rfl, Below.refl _ _, Lib.hid (fun i hi => absurd hi (Nat.not_lt_zero i))⟩
    case round =>
      obtain ⟨i, hi, rfl, rfl, rb, rA⟩ := hrel
      by_cases hlt : i < L
      · obtain ⟨x, u, rfl, hx, c0, hu⟩ := HC.out i hlt
        obtain ⟨x', u0, e0, hx', c1, hu0⟩ := HC.out 0 (by omega)
        injection e0 with e0
        subst e0
        have c0' := (rb.cell (p := x.add i) (by rw [add_block]; exact hx)).trans c0
        have c1' : wr.cell? x = some u0 := by have := (rb.cell (p := x.add 0) (by rw [add_block]; exact hx)).trans c1; rwa [show x.add 0 = x from rfl] at this
        have i0 : (0 : Int) ≤ (i : Int) := by omega
        have i1 : (i : Int) < (L : Int) := by omega
        have i2 : (0 : Int) < (L : Int) := by omega
        have i3 : 0 < L := by omega
        have hp : ∀ W, Below wr.heap.size wr W → Calls Try.prog 36 #[u, u0, .int .i64 0] W fun e w' => e = .returned (.int .i64 (colV (N i) (N 0) (F i) (F 0) 0)) ∧ Below W.heap.size W w' := fun W hb => HP.out i hlt u u0 W ((hu.below rb).below hb).ints ((hu0.below rb).below hb).ints
        have HU0 : Hid (IntsC w u0 n (F 0)) := Lib.hid (by rw [← HN0.out]; exact hu0)
        cases hq : pairHB (N i) (N 0) (F i) (F 0) with
        | false =>
          rw [HCOL.out i hq] at hp
          have HPP := Lib.hid hp
          have HE := Lib.hid (HNO.out i hlt hq)
          have RB := Lib.hid rb
          have B0 := Lib.hid (Below.refl wr.heap.size wr)
          clear hp hq rA hu hu0 hx hx' c0 c1 rb
          go_wp2_with fail
          go_region_held3 (fun wx => Below wr.heap.size wr wx ∧ wx.cell? (x.add i) = some u ∧ wx.cell? x = some u0) (first | exact ⟨k1, (k1.cell (p := x.add i) (World.block_lt_of_cell? _ _ c0')).trans c0', (k1.cell (p := x) (World.block_lt_of_cell? _ _ c1')).trans c1'⟩ | exact ⟨B0.out.drew, c0', c1'⟩) (first
            | (go_at_call 36; refine (HPP.out _ B0.out.drew).mono ?_; rintro e w5 ⟨rfl, hb5⟩; have k1 := below_then B0.out.drew (Nat.le_refl _) hb5; clear hb5))
          have b6 := below_then RB.out (Nat.le_refl _) k1
          go_wp2
          go_ret
          exact ⟨ret_int HE.out.symm, b6⟩
        | true =>
          obtain ⟨V, hV⟩ : ∃ V, colV (N i) (N 0) (F i) (F 0) 0 = V := ⟨_, rfl⟩
          have hV0 := HCOP.out i hq
          rw [hV] at hp hV0
          have hVn : ¬ (V < 0) := by omega
          have HPP := Lib.hid hp
          have RB := Lib.hid rb
          have B0 := Lib.hid (Below.refl wr.heap.size wr)
          obtain ⟨e1, e2, e3⟩ := pairHB_len hq
          rw [e1, HN0.out] at e2 e3
          have nA : Hid (∀ j, j < i + 1 → pairHB (N j) (N 0) (F j) (F 0) = true) := Lib.hid (fun j hj => by
            rcases Nat.lt_or_ge j i with h | h
            · exact rA.out j h
            · rw [show j = i by omega]; exact hq)
          have HU : Hid (IntsC w u n (F i)) := Lib.hid (by rw [← HN0.out, ← e1]; exact hu)
          have hst := HST.out i
          have hdi := HDI.out i
          have hA := mk3_bd (fun q => HWS.out q) i
          obtain ⟨A, hAA⟩ : ∃ A, mk3 (wcS F n) i = A := ⟨_, rfl⟩
          rw [hAA] at hst hA ⊢
          have HSTI : Hid (mk3 (wcS F n) (i + 1) = max A (mk3 (fun j => wcK F n i j) i)) := Lib.hid (by rw [hst, hdi])
          have d0 := c0
          have d1 : w.cell? x = some u0 := by have := c1; rwa [show x.add 0 = x from rfl] at this
          clear hp hq rA hu hu0 hx' c0 c1 rb hV hst hdi hAA e1
          go_wp2_with fail
          go_region_held3 (fun wx => Below wr.heap.size wr wx ∧ wx.cell? (x.add i) = some u ∧ wx.cell? x = some u0) (first | exact ⟨k1, (k1.cell (p := x.add i) (World.block_lt_of_cell? _ _ c0')).trans c0', (k1.cell (p := x) (World.block_lt_of_cell? _ _ c1')).trans c1'⟩ | exact ⟨B0.out.drew, c0', c1'⟩) (first
            | (go_at_call 36; refine (HPP.out _ B0.out.drew).mono ?_; rintro e w5 ⟨rfl, hb5⟩; have k1 := below_then B0.out.drew (Nat.le_refl _) hb5; clear hb5))
          have b6 := Lib.hid (below_then RB.out (Nat.le_refl _) k1)
          have C1 := Lib.hid (And.intro hx (And.intro c0' c1'))
          have C2 := Lib.hid (fun (W : World) (hb : Below w.heap.size w W) => And.intro ((hb.cell (p := x.add i) (by rw [add_block]; exact hx)).trans d0) ((hb.cell (p := x) hx).trans d1))
          obtain ⟨a0, cap0, rfl⟩ : ∃ a0 cap0, u0 = .slice a0 n cap0 := by
            obtain ⟨a3, cap3, e, _⟩ := HU0.out
            exact ⟨a3, cap3, e⟩
          clear k1 c0' c1' HPP hV0 RB B0 d0 d1
          go_wp2
          clear hVn
          go_loopw [3, 5] (fun m t wx => ∃ d : Nat, d ≤ i ∧ t = .int .i64 d ∧ m = .int .i64 (max A (mk3 (fun j => wcK F n i j) d) : Nat) ∧ Below w.heap.size w wx) (fun _ t _ => i - (intOf t).toNat)
          case atStart => exact ⟨0, Nat.zero_le _, rfl, by simp [mk3], b6.out⟩
          case round =>
            obtain ⟨d, hd, rfl, rfl, qb⟩ := hrel
            clear b6
            by_cases hdl : d < i
            · obtain ⟨x3, u3, e3', hx3, c3, hu3⟩ := HC.out d (by omega)
              injection e3' with e3'
              subst e3'
              have hc3 : Hid (∀ W, Below w.heap.size w W → W.cell? (x.add d) = some u3) := Lib.hid (fun W hb => (hb.cell (p := x.add d) (by rw [add_block]; exact hx)).trans c3)
              have hpd := pairHB_len (nA.out d (by omega))
              have HU3 : Hid (IntsC w u3 n (F d)) := Lib.hid (by rw [← HN0.out, ← hpd.1]; exact hu3)
              have f0 : (0 : Int) ≤ (d : Int) := by omega
              have f1 : (d : Int) < (i : Int) := by omega
              have f2 : (d : Int) < (L : Int) := by omega
              have hsd := HSD.out i d
              have hdk := HDK.out i d
              have hB := mk3_bd (fun q => HWK.out i q) d
              obtain ⟨B, hBB⟩ : ∃ B, mk3 (fun j => wcK F n i j) d = B := ⟨_, rfl⟩
              rw [hBB] at hsd hB ⊢
              have HSDI : Hid (mk3 (fun j => wcK F n i j) (d + 1) = max B (mk3 (fun q => mtC (F i) (shF n (F d) (q : Int)) n) n)) := Lib.hid (by rw [hsd, hdk])
              have hmAB : max A B ≤ n := by omega
              obtain ⟨Y, hY⟩ : ∃ Y, max A B = Y := ⟨_, rfl⟩
              rw [hY] at hmAB ⊢
              have HY := Lib.hid hY
              have QB := Lib.hid qb
              clear hsd hdk hBB hu3 hx3 c3 qb hpd hY hB
              go_wp2
              go_loopw [3, 6] (fun m t wy => ∃ q : Nat, q ≤ n ∧ t = .int .i64 q ∧ m = .int .i64 (max Y (mk3 (fun q => mtC (F i) (shF n (F d) (q : Int)) n) q) : Nat) ∧ Below w.heap.size w wy) (fun _ t _ => n - (intOf t).toNat)
              case atStart => exact ⟨0, Nat.zero_le _, rfl, by simp [mk3], QB.out⟩
              case round =>
                obtain ⟨q, hq, rfl, rfl, pb⟩ := hrel
                clear QB
                obtain ⟨g1, g2⟩ := C2.out _ pb
                have g3 := hc3.out _ pb
                by_cases hql : q < n
                · have q0 : (0 : Int) ≤ (q : Int) := by omega
                  have q1 : (q : Int) < (n : Int) := by omega
                  have hmeet : ∀ W, Below wr.heap.size wr W → Calls Try.prog 37 #[u, u3, .int .i64 (q : Int)] W fun e w' => e = .returned (.int .i64 (mtC (F i) (shF n (F d) (q : Int)) n : Nat)) ∧ Below W.heap.size W w' := fun W hb => sMeet_any u u3 n (F i) (F d) (q : Int) W ((HU.out.below pb).below hb).ints ((HU3.out.below pb).below hb).ints e2 e3
                  have hsk := HSK.out i d q
                  have hmt := HMT.out i d q
                  have hC := mk3_bd (fun q => HMT.out i d q) q
                  obtain ⟨T, hT⟩ : ∃ T, mtC (F i) (shF n (F d) (q : Int)) n = T := ⟨_, rfl⟩
                  rw [hT] at hmeet hmt hsk
                  obtain ⟨C, hCC⟩ : ∃ C, mk3 (fun q => mtC (F i) (shF n (F d) (q : Int)) n) q = C := ⟨_, rfl⟩
                  rw [hCC] at hsk hC ⊢
                  have HSKI := Lib.hid hsk
                  obtain ⟨Z, hZ⟩ : ∃ Z, max Y C = Z := ⟨_, rfl⟩
                  have hZn : Z ≤ n := by rw [← hZ]; omega
                  rw [hZ]
                  have HZ := Lib.hid hZ
                  have PB := Lib.hid pb
                  have HMEET := Lib.hid hmeet
                  have B0 := Lib.hid (Below.refl wr.heap.size wr)
                  have G := Lib.hid (And.intro g1 (And.intro g2 g3))
                  clear hsk hT hCC hZ pb hC hmeet
                  by_cases hTZ : T ≤ Z
                  · have t0 : (T : Int) ≤ (Z : Int) := by omega
                    have t1 : ¬ ((Z : Int) < (T : Int)) := by omega
                    have t2 : ¬ Z < T := by omega
                    have HFIN : Hid (max Y (max C T) = Z) := Lib.hid (by have := HZ.out; omega)
                    go_wp2_with fail
                    go_region_held3 (fun wx => Below wr.heap.size wr wx ∧ wx.cell? (x.add i) = some u ∧ wx.cell? (x.add d) = some u3) (first | exact ⟨k1, (k1.cell (p := x.add i) (World.block_lt_of_cell? _ _ G.out.1)).trans G.out.1, (k1.cell (p := x.add d) (World.block_lt_of_cell? _ _ G.out.2.2)).trans G.out.2.2⟩ | exact ⟨B0.out.drew, g1, g3⟩) (first
                      | (go_at_call 37; refine (HMEET.out _ B0.out.drew).mono ?_; rintro e w5 ⟨rfl, hb5⟩; have k1 := below_then B0.out.drew (Nat.le_refl _) hb5; clear hb5))
                    have k2 := Lib.hid (below_then PB.out (Nat.le_refl _) k1)
                    clear k1
                    go_wp2
                    go_roundw
                    case rel => exact ⟨q + 1, by omega, by go_num, by rw [HSKI.out, HFIN.out], k2.out⟩
                    case measure => simp [intOf]; omega
                  · have t0 : (Z : Int) < (T : Int) := by omega
                    have t1 : ¬ ((T : Int) ≤ (Z : Int)) := by omega
                    have t2 : Z < T := by omega
                    have HFIN : Hid (max Y (max C T) = T) := Lib.hid (by have := HZ.out; omega)
                    go_wp2_with fail
                    go_region_held3 (fun wx => Below wr.heap.size wr wx ∧ wx.cell? (x.add i) = some u ∧ wx.cell? (x.add d) = some u3) (first | exact ⟨k1, (k1.cell (p := x.add i) (World.block_lt_of_cell? _ _ G.out.1)).trans G.out.1, (k1.cell (p := x.add d) (World.block_lt_of_cell? _ _ G.out.2.2)).trans G.out.2.2⟩ | exact ⟨B0.out.drew, g1, g3⟩) (first
                      | (go_at_call 37; refine (HMEET.out _ B0.out.drew).mono ?_; rintro e w5 ⟨rfl, hb5⟩; have k1 := below_then B0.out.drew (Nat.le_refl _) hb5; clear hb5))
                    have k2 := Lib.hid (below_then PB.out (Nat.le_refl _) k1)
                    clear k1
                    go_wp2
                    go_roundw
                    case rel => exact ⟨q + 1, by omega, by go_num, by rw [HSKI.out, HFIN.out], k2.out⟩
                    case measure => simp [intOf]; omega
                · obtain rfl : q = n := by omega
                  have HFIN : Hid (max Y (mk3 (fun q' => mtC (F i) (shF q (F d) (q' : Int)) q) q) = max A (mk3 (fun j => wcK F q i j) (d + 1))) := Lib.hid (by rw [HSDI.out, ← HY.out, Nat.max_assoc])
                  go_wp2
                  go_roundw
                  case rel => exact ⟨d + 1, by omega, by go_num, by rw [HFIN.out], pb⟩
                  case measure => simp [intOf]; omega
            · obtain rfl : d = i := by omega
              go_wp2
              go_roundw
              case rel => exact ⟨d + 1, by omega, by go_num, by rw [HSTI.out], qb, nA⟩
              case measure => simp [intOf]; omega
      · obtain rfl : i = L := by omega
        have HE := Lib.hid (HYES.out rA.out)
        have HE2 : Hid (wcV i N F = (mk3 (wcS F n) i : Nat)) := Lib.hid (by rw [HE.out, HN0.out])
        go_wp2
        go_ret
        exact ⟨ret_int HE2.out.symm, rb⟩
  · rw [wc_no1 h8]
    have l0 : (8 : Int) < (L : Int) := by omega
    clear hc hN
    go_enter Try.func10, Try.ntmps10
    go_wp2
    go_ret
    exact ⟨rfl, Below.refl _ _⟩
end Go.Proofs.Ytbllmgdnhjdphac
