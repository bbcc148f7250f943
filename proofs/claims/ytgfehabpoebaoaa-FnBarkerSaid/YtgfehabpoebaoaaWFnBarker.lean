/- The walk of the law FnBarker. -/
import Derived.Test.YtgfehabpoebaoaaDrawBV
import Derived.Test.YtgfehabpoebaoaaBarkMath
import Derived.Test.YtgfehabpoebaoaaSeqRev3
import Derived.Test.YtgfehabpoebaoaaBytesRow
namespace Go.Proofs.Ytgfehabpoebaoaa
open Go.RowKit
set_option linter.unusedVariables false
set_option maxRecDepth 100000
set_option maxHeartbeats 6400000 in
theorem fnBarker_walk (a0 : Option Addr) (len0 cap0 : Nat) (z0 : List Int) (w : World) (w0 : IsBytes w a0 len0 cap0 z0) :
    Calls Try.prog 3 #[.slice a0 len0 cap0] w fun e w' => e = .returned (.bool true) ∧ Below w.heap.size w w' := by
  by_cases hl0 : 1048576 < len0
  · go_enter Try.func3, Try.ntmps3
    go_wp2
    go_ret
    exact ⟨rfl, Below.refl _ _⟩
  go_enter Try.func3, Try.ntmps3
  go_wp2_with fail
  refine (drawBV_any a0 len0 cap0 z0 _ w0).mono ?_
  rintro e w1 ⟨z, rfl, hz, bc⟩
  clear w0
  have hi := fun w => iBark_any z w (by omega)
  have hs := fun w => sBark_any z w (by omega)
  have hv := fun w => iSeq_b z w (by omega)
  cases hq : seqB z with
  | false =>
    rw [bark_not hq] at hi hs
    rw [hq] at hv
    have HI := Lib.hid hi
    have HS := Lib.hid hs
    have HV := Lib.hid hv
    clear hi hs hv hq
    go_wp2_with fail
    refine (HI.out _).mono ?_
    rintro e w2 ⟨rfl, b2⟩
    have c2 := below_then bc (Nat.le_refl _) b2
    clear bc b2
    go_wp2_with fail
    refine (HS.out _).mono ?_
    rintro e w3 ⟨rfl, b3⟩
    have c3 := below_then c2 (Nat.le_refl _) b3
    clear c2 b3
    go_wp2_with fail
    refine (HV.out _).mono ?_
    rintro e w4 ⟨rfl, b4⟩
    have c4 := below_then c3 (Nat.le_refl _) b4
    clear c3 b4
    go_wp2_with fail
    refine (HS.out _).mono ?_
    rintro e w5 ⟨rfl, b5⟩
    have c5 := below_then c4 (Nat.le_refl _) b5
    clear c4 b5
    go_wp2_with fail
    refine (HV.out _).mono ?_
    rintro e w6 ⟨rfl, b6⟩
    have c6 := below_then c5 (Nat.le_refl _) b6
    clear c5 b6
    go_wp2
    go_ret
    exact ⟨rfl, c6⟩
  | true =>
    obtain ⟨h1, h2, h3⟩ := (seqB_iff z).1 hq
    rw [hq] at hv
    have hr := fun w => iRev_yes z w hq
    have hn := fun w => iInvert_yes z w hq
    have hbr := fun w => iBark_any (revS z) w (by rw [revS_size]; omega)
    have hbi := fun w => iBark_any (invS z) w (by rw [invS_size]; omega)
    have hba := fun w => iBark_any (altS z) w (by rw [altS_size]; omega)
    rw [bark_rev hq] at hbr
    rw [bark_inv hq] at hbi
    rw [bark_alt hq] at hba
    have hap := fun (k : Nat) (w : World) (hk : k < z.size) => iAper_yes z k w hq hk
    have hto := bark_is hq
    obtain ⟨B, hB⟩ : ∃ B, barkB z = B := ⟨_, rfl⟩
    rw [hB] at hi hs hbr hbi hba hto
    obtain ⟨X, hX⟩ : ∃ B, revS z = B := ⟨_, rfl⟩
    rw [hX] at hr hbr
    obtain ⟨Y, hY⟩ : ∃ B, invS z = B := ⟨_, rfl⟩
    rw [hY] at hn hbi
    have HOK := Lib.hid (okB_zb z h1)
    clear hB hX hY hq h1
    have HI := Lib.hid hi
    have HS := Lib.hid hs
    have HV := Lib.hid hv
    have HR := Lib.hid hr
    have HN := Lib.hid hn
    have HBR := Lib.hid hbr
    have HBI := Lib.hid hbi
    have HBA := Lib.hid hba
    have HAP := Lib.hid hap
    have HTO := Lib.hid hto
    clear hi hs hv hr hn hbr hbi hba hap hto
    cases B
    all_goals
      go_wp2_with fail
      refine (HI.out _).mono ?_
      rintro e w2 ⟨rfl, b2⟩
      have c2 := below_then bc (Nat.le_refl _) b2
      clear bc b2
      go_wp2_with fail
      refine (HS.out _).mono ?_
      rintro e w3 ⟨rfl, b3⟩
      have c3 := below_then c2 (Nat.le_refl _) b3
      clear c2 b3
      go_wp2_with fail
      refine (HV.out _).mono ?_
      rintro e w4 ⟨rfl, b4⟩
      have c4 := below_then c3 (Nat.le_refl _) b4
      clear c3 b4
      go_wp2_with fail
      refine (HR.out _).mono ?_
      rintro e w5 ⟨rfl, b5⟩
      have c5 := below_then c4 (Nat.le_refl _) b5
      clear c4 b5
      go_wp2_with fail
      refine (HN.out _).mono ?_
      rintro e w6 ⟨rfl, b6⟩
      have c6 := below_then c5 (Nat.le_refl _) b6
      clear c5 b6
      obtain ⟨W1, cc, hcv, hH, hBb⟩ : ∃ W1 c, (convert 9 22 (.string z)).run Try.prog w6 = .ok (.slice (some ⟨w6.heap.size, 0, none⟩) z.size c) W1 ∧ (∀ j, j < z.size → W1.cell? ⟨w6.heap.size, j, none⟩ = some (.int .u8 (zb z j : Nat)) ∧ W1.frozen? ⟨w6.heap.size, j, none⟩ = false) ∧ Below w6.heap.size w6 W1 :=
        ⟨_, _, Lib.run_convert_string_bytes w6 9 22 5 z (u := .string) (by kernel_rfl) (by kernel_rfl) (by kernel_rfl), bytes_row w6 5 z, below_bytesW w6 _ z⟩
      have hH0 : ∀ j, j < z.size → W1.cell? ⟨w6.heap.size, j, none⟩ = some (.int .u8 (altI z 1 j : Nat)) ∧ W1.frozen? ⟨w6.heap.size, j, none⟩ = false := fun j hj => by
        rw [show altI z 1 j = zb z j by unfold altI; rw [if_neg (by omega)]]
        exact hH j hj
      have HH0 := Lib.hid hH0
      clear hH hH0
      go_wp2_with fail
      clear hcv
      go_loopw [10] (fun i wr => ∃ I : Nat, 1 ≤ I ∧ I ≤ z.size + 1 ∧ I % 2 = 1 ∧ i = .int .i64 (I : Int) ∧ Hid (∀ j, j < z.size → wr.cell? ⟨w6.heap.size, j, none⟩ = some (.int .u8 (altI z I j : Nat)) ∧ wr.frozen? ⟨w6.heap.size, j, none⟩ = false) ∧ Below w6.heap.size w6 wr ∧ w6.heap.size < wr.heap.size) (fun i _ => z.size + 2 - (intOf i).toNat)
      case atStart =>
        refine ⟨1, by omega, by omega, rfl, rfl, HH0, hBb, ?_⟩
        have := World.block_lt_of_cell? _ _ (HH0.out 0 (by omega)).1
        exact this
      case round =>
        obtain ⟨I, hI1, hI2, hIo, rfl, rH, rb, rs⟩ := hrel
        clear HH0 hBb
        by_cases hlt : I < z.size
        · obtain ⟨k1, f1⟩ := rH.out I hlt
          have hold : altI z I I = zb z I := by unfold altI; rw [if_neg (by omega)]
          rw [hold] at k1
          have hbit := HOK.out I hlt
          obtain ⟨U, hU⟩ : ∃ U, zb z I = U := ⟨_, rfl⟩
          obtain ⟨V, hV⟩ : ∃ V, 97 - U = V := ⟨_, rfl⟩
          have v1 : IntKind.u8.wrap ((97 : Int) - (U : Int)) = (V : Int) := by rw [show (97 : Int) - (U : Int) = (V : Int) by omega]; exact IntWalk.u8_in _ (by omega)
          have i0 : (0 : Int) ≤ (I : Int) := by omega
          have i1 : (I : Int) < (z.size : Int) := by omega
          have nH : Hid (∀ j, j < z.size → (wr.setCell ⟨w6.heap.size, I, none⟩ (.int .u8 (V : Nat))).cell? ⟨w6.heap.size, j, none⟩ = some (.int .u8 (altI z (I + 2) j : Nat)) ∧ (wr.setCell ⟨w6.heap.size, I, none⟩ (.int .u8 (V : Nat))).frozen? ⟨w6.heap.size, j, none⟩ = false) := Lib.hid (fun j hj => by
            refine ⟨?_, by simp [rH.out j hj]⟩
            by_cases e : j = I
            · subst e
              rw [World.cell?_setCell_same _ _ _ k1]
              unfold altI
              rw [if_pos ⟨by omega, hIo⟩, hU, hV]
            · rw [World.cell?_setCell_other _ _ _ _ (by intro h; injection h with _ h _; exact e h.symm), (rH.out j hj).1]
              congr 3
              unfold altI
              by_cases e2 : j < I ∧ j % 2 = 1
              · rw [if_pos e2, if_pos ⟨by omega, e2.2⟩]
              · rw [if_neg e2, if_neg (fun h => e2 ⟨by omega, h.2⟩)])
          have nb := Lib.hid (bytes_below rb (Nat.le_refl _) I (.int .u8 (V : Nat)))
          have ns : Hid (w6.heap.size < (wr.setCell ⟨w6.heap.size, I, none⟩ (.int .u8 (V : Nat))).heap.size) := Lib.hid (by simp; exact rs)
          rw [hU] at k1
          clear rH rb rs hU hV hbit hold hI2
          go_wp2
          go_roundw
          case rel => exact ⟨I + 2, by omega, by omega, by omega, by go_num, nH, nb.out, ns.out⟩
          case measure => simp [intOf]; omega
        · have hE : Hid (∀ j, j < z.size → wr.cell? ⟨w6.heap.size, j, none⟩ = some (.int .u8 (altF z j : Nat))) := Lib.hid (fun j hj => by rw [(rH.out j hj).1, altI_end (by omega) hj])
          have c7 := below_then c6 (Nat.le_refl _) rb
          have i1 : ¬ (I : Int) < (z.size : Int) := by omega
          clear rH rb c6
          obtain ⟨B9, hB9⟩ : ∃ b, w6.heap.size = b := ⟨_, rfl⟩
          rw [hB9] at hE rs ⊢
          clear hB9
          go_wp2_with fail
          go_loopw [11, 12] (fun g k wq => ∃ K : Nat, 1 ≤ K ∧ K ≤ z.size ∧ g = .bool (barkTo z K) ∧ k = .int .i64 (K : Int) ∧ Below wr.heap.size wr wq) (fun _ k _ => z.size - (intOf k).toNat)
          case atStart => exact ⟨1, by omega, by omega, rfl, rfl, Below.refl _ _⟩
          case round =>
            obtain ⟨K, hK1, hK2, rfl, rfl, rq⟩ := hrel
            by_cases hkl : K < z.size
            · have k0 : (0 : Int) ≤ (K : Int) := by omega
              have k1 : (K : Int) < (z.size : Int) := by omega
              have hst := barkTo_succ z K hK1
              have hA := fun w => HAP.out K w hkl
              obtain ⟨A, hAA⟩ : ∃ A, aperN z K = A := ⟨_, rfl⟩
              rw [hAA] at hst hA
              have HST := Lib.hid hst
              have HAA := Lib.hid hA
              clear hst hA hAA
              obtain ⟨T, hT⟩ : ∃ T, barkTo z K = T := ⟨_, rfl⟩
              rw [hT] at HST ⊢
              clear hT
              go_wp2_with fail
              refine (HAA.out _).mono ?_
              rintro e w8 ⟨rfl, b8⟩
              have rq8 := below_then rq (Nat.le_refl _) b8
              clear rq b8
              cases T
              · have hn : Hid (barkTo z (K + 1) = false) := Lib.hid (by rw [HST.out]; rfl)
                go_wp2
                go_roundw
                case rel => exact ⟨K + 1, by omega, by omega, by rw [hn.out] <;> first | rfl | (rw [decide_eq_false (by omega)]), by go_num, rq8⟩
                case measure => simp [intOf]; omega
              · by_cases q1 : -1 ≤ A
                · by_cases q2 : A ≤ 1
                  · have hn : Hid (barkTo z (K + 1) = true) := Lib.hid (by rw [HST.out, (small_iff A).2 ⟨q1, q2⟩]; rfl)
                    go_wp2
                    go_roundw
                    case rel => exact ⟨K + 1, by omega, by omega, by rw [hn.out] <;> first | rfl | (rw [decide_eq_false (by omega)]), by go_num, rq8⟩
                    case measure => simp [intOf]; omega
                  · have hn : Hid (barkTo z (K + 1) = false) := Lib.hid (by
                      rw [HST.out]
                      cases hS : smallB A with
                      | false => rfl
                      | true => exact absurd ((small_iff A).1 hS).2 q2)
                    go_wp2
                    go_roundw
                    case rel => exact ⟨K + 1, by omega, by omega, by rw [hn.out] <;> first | rfl | (rw [decide_eq_false (by omega)]), by go_num, rq8⟩
                    case measure => simp [intOf]; omega
                · have hn : Hid (barkTo z (K + 1) = false) := Lib.hid (by
                    rw [HST.out]
                    cases hS : smallB A with
                    | false => rfl
                    | true => exact absurd ((small_iff A).1 hS).1 q1)
                  go_wp2
                  go_roundw
                  case rel => exact ⟨K + 1, by omega, by omega, by rw [hn.out] <;> first | rfl | (rw [decide_eq_false (by omega)]), by go_num, rq8⟩
                  case measure => simp [intOf]; omega
            · obtain rfl : K = z.size := by omega
              rw [← HTO.out]
              have c8 := below_then c7 (Nat.le_refl _) rq
              have k1 : ¬ ((z.size : Int) < (z.size : Int)) := by omega
              clear c7 hK1 hK2 hkl
              go_wp2_with fail
              refine (HBR.out _).mono ?_
              rintro e w9 ⟨rfl, b9⟩
              have c9 := below_then c8 (Nat.le_refl _) b9
              have rq9 := below_then rq (Nat.le_refl _) b9
              clear c8 b9 rq
              go_wp2_with fail
              refine (HBI.out _).mono ?_
              rintro e w10 ⟨rfl, b10⟩
              have c10 := below_then c9 (Nat.le_refl _) b10
              have rq10 := below_then rq9 (Nat.le_refl _) b10
              clear c9 b10 rq9
              have hcc : ∀ i, i < z.size → w10.cell? ⟨B9, i, none⟩ = some (.int .u8 (altF z i : Nat)) := fun i hi => by rw [rq10.cell (p := ⟨B9, i, none⟩) rs]; exact hE.out i hi
              have hst := fun cap => str_cells (W := w10) (cap := cap) hcc
              have hal : strF z.size (altF z) = altS z := rfl
              rw [hal] at hst
              obtain ⟨Q, hQ⟩ : ∃ q, altS z = q := ⟨_, rfl⟩
              rw [hQ] at hst HBA
              clear hal hQ hcc
              go_wp2_with fail
              refine (HBA.out _).mono ?_
              rintro e w11 ⟨rfl, b11⟩
              have c11 := below_then c10 (Nat.le_refl _) b11
              clear c10 b11 hst
              go_wp2
              go_ret
              exact ⟨rfl, c11⟩
end Go.Proofs.Ytgfehabpoebaoaa
