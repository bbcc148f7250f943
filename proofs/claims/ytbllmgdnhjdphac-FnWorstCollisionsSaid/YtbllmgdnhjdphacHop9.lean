/- HopSequence of both sides. -/
import Derived.Test.YtbllmgdnhjdphacHop1
import Derived.Test.YtbllmgdnhjdphacRegModel
namespace Go.Proofs.Ytbllmgdnhjdphac
open Go.RowKit
set_option linter.unusedVariables false
set_option maxRecDepth 100000
def hsB (S T X C K : Int) : Bool := regB S T X && (chB C && cntB K)
def hsN (S T X C K : Int) : Nat := if hsB S T X C K then K.toNat else 0
def hsF (S T X C : Int) (i : Nat) : Int := ((stepsN S.toNat T.toNat (i * S.toNat) X.toNat % C.toNat : Nat) : Int)
theorem hsB_iff (S T X C K : Int) : hsB S T X C K = true ↔ regB S T X = true ∧ (1 ≤ C ∧ C ≤ 16) ∧ 0 ≤ K ∧ K ≤ 300 := by
  unfold hsB
  simp only [Bool.and_eq_true, chB_iff, cntB_iff]
theorem hs_no {S T X C K : Int} (h : hsB S T X C K = false) : hsN S T X C K = 0 := by unfold hsN; rw [h]; rfl
theorem hsN_le6 (S T X C K : Int) : hsN S T X C K ≤ 1000000 := by
  unfold hsN
  split
  · rename_i h
    have := (hsB_iff _ _ _ _ _).1 h
    omega
  · omega
theorem hs_next (s t x i : Nat) : stepsN s t ((i + 1) * s) x = stepsN s t s (stepsN s t (i * s) x) := by
  rw [Nat.add_mul, Nat.one_mul, Nat.add_comm, steps_add]
theorem hs_at (s t x c i : Nat) : hsF s t x c i = ((stepsN s t (i * s) x % c : Nat) : Int) := rfl
theorem steps_lt {s t x : Nat} (h : RegN s t x) (n : Nat) : stepsN s t n x < tw s := (h.steps n).lt
set_option maxHeartbeats 1600000 in
theorem regHops_any (s t x c k : Nat) (w : World) (h : RegN s t x) (hc1 : 1 ≤ c) (hc2 : c ≤ 16) (hk : k ≤ 300) :
    Calls Try.prog 58 #[.agg #[.int .i64 s, .int .i64 t, .int .i64 x], .int .i64 (c : Int), .int .i64 (k : Int)] w fun e w' => ∃ u, e = .returned u ∧ OF w' w.heap.size u k (hsF s t x c) ∧ Below w.heap.size w w' := by
  have hmk := make_ints k (by omega)
  have s1 : (w.alloc (.cells #[.int .i64 s, .int .i64 t, .int .i64 x] 45)).heap.size = w.heap.size + 1 := World.size_alloc _ _
  have A0 := (RegAt.new w 45 s t x)
  have f0 : (w.alloc (.cells #[.int .i64 s, .int .i64 t, .int .i64 x] 45)).frozen? ⟨w.heap.size, 2, none⟩ = false := by simp
  have B0 := (Below.refl w.heap.size w).alloc (Nat.le_refl _) (.cells #[.int .i64 s, .int .i64 t, .int .i64 x] 45)
  have hb1 : Below (w.heap.size + 1) (w.alloc (.cells #[.int .i64 s, .int .i64 t, .int .i64 x] 45)) ((w.alloc (.cells #[.int .i64 s, .int .i64 t, .int .i64 x] 45)).alloc (.cells (madeCells #[.int .i64 0] k) 3)) := by
    rw [← s1]; exact (Below.refl _ _).alloc (Nat.le_refl _) _
  have A1 := A0.below hb1 (Nat.lt_succ_self _)
  have f1 := (hb1.frozen (p := ⟨w.heap.size, 2, none⟩) (Nat.lt_succ_self _)).trans f0
  have B1 := B0.alloc B0.size (.cells (madeCells #[.int .i64 0] k) 3)
  have O1 := (OF.made (w.alloc (.cells #[.int .i64 s, .int .i64 t, .int .i64 x] 45)) k (by omega)).congr (g := fun j => if j < 0 then hsF s t x c j else 0) (fun j _ => by simp)
  rw [s1] at O1
  have HW1 := Lib.hid s1
  obtain ⟨W, hW⟩ : ∃ W, (w.alloc (.cells #[.int .i64 s, .int .i64 t, .int .i64 x] 45)).alloc (.cells (madeCells #[.int .i64 0] k) 3) = W := ⟨_, rfl⟩
  rw [hW] at A1 f1 B1 O1
  have HW := Lib.hid hW
  have HLT := Lib.hid (fun n => steps_lt h n)
  have HTW := Lib.hid (tw_le s h.hi)
  have HSS := Lib.hid (fun n => h.steps n)
  have HNX := Lib.hid (fun i => hs_next s t x i)
  have HAT := Lib.hid (fun i => hs_at s t x c i)
  have hs8 := h.hi
  have HZ0 : Hid (stepsN s t (0 * s) x = x) := Lib.hid (by rw [Nat.zero_mul]; rfl)
  have l0 : ¬ ((c : Int) = 0) := by omega
  have l1 : ((c : Int) == 0) = false := by simp; omega
  clear A0 f0 B0 hb1 hW s1
  go_enter Try.func58, Try.ntmps58
  go_wp2
  try rw [HW1.out]
  rw [HW.out]
  go_loopw [13] (fun o wr => ∃ i : Nat, i ≤ k ∧ o = .int .i64 i ∧ OF wr (w.heap.size + 1) (.slice (some ⟨w.heap.size + 1, 0, none⟩) k k) k (fun j => if j < i then hsF s t x c j else 0) ∧ RegAt wr w.heap.size s t (stepsN s t (i * s) x : Nat) ∧ wr.frozen? ⟨w.heap.size, 2, none⟩ = false ∧ Below w.heap.size w wr) (fun o _ => k - (intOf o).toNat)
  case atStart => exact ⟨0, Nat.zero_le _, rfl, O1, by rw [HZ0.out]; exact A1, f1, B1⟩
  case round =>
    obtain ⟨i, hi, rfl, rO, rA, rf, rb⟩ := hrel
    clear hmk A1 f1 B1 O1
    by_cases hlt : i < k
    · obtain ⟨r1, r2, r3, rl⟩ := id rA
      have hlt2 := HLT.out (i * s)
      have hv := HAT.out i
      have hnx := HNX.out i
      have hss := HSS.out (i * s)
      obtain ⟨Y, hY⟩ : ∃ Y, stepsN s t (i * s) x = Y := ⟨_, rfl⟩
      rw [hY] at r3 hlt2 hv hnx hss rA
      have htw := HTW.out
      have t3 := hop_mod Y c
      obtain ⟨R, hR⟩ : ∃ R, Y % c = R := ⟨_, rfl⟩
      have hRc : R < c := by rw [← hR]; exact Nat.mod_lt _ hc1
      rw [hR] at t3 hv
      obtain ⟨q1, q2⟩ := rO.at i hlt
      have i0 : (0 : Int) ≤ (i : Int) := by omega
      have i1 : (i : Int) < (k : Int) := by omega
      have nO : Hid (OF (wr.setCell ⟨w.heap.size + 1, i, none⟩ (.int .i64 (R : Int))) (w.heap.size + 1) (.slice (some ⟨w.heap.size + 1, 0, none⟩) k k) k (fun j => if j < i + 1 then hsF s t x c j else 0)) :=
        Lib.hid (rO.set i (R : Int) hlt (fun j hj => by
          by_cases e : j = i
          · subst e; rw [if_pos (by omega), if_pos rfl]; exact hv
          · rw [if_neg e]
            by_cases e' : j < i
            · rw [if_pos (by omega), if_pos e']
            · rw [if_neg (by omega), if_neg e']))
      have nb : Hid (Below w.heap.size w (wr.setCell ⟨w.heap.size + 1, i, none⟩ (.int .i64 (R : Int)))) := Lib.hid (rb.setCell (p := ⟨w.heap.size + 1, i, none⟩) (by simp) _)
      have hgr : wr.grownBy (wr.setCell ⟨w.heap.size + 1, i, none⟩ (.int .i64 (R : Int))) (some (w.heap.size + 1)) := ⟨rfl, rfl, rfl, by simp, fun k hk hne => Below.heap_setCell _ _ _ _ (fun e => hne (by rw [e]))⟩
      have nA : RegAt (wr.setCell ⟨w.heap.size + 1, i, none⟩ (.int .i64 (R : Int))) w.heap.size s t (Y : Nat) := rA.kept hgr (by simp)
      have nf : (wr.setCell ⟨w.heap.size + 1, i, none⟩ (.int .i64 (R : Int))).frozen? ⟨w.heap.size, 2, none⟩ = false := frozen_kept' rf rl hgr (by simp)
      have nr1 := nA.1
      have HA := Lib.hid nA
      have HF := Lib.hid nf
      have HNX2 := Lib.hid hnx
      have HSY := Lib.hid (fun n => hss.steps n)
      clear rO rA rf rb hgr hv hR hY hss nA nf hnx
      go_wp2
      obtain ⟨V, hV⟩ : ∃ V, wr.setCell ⟨w.heap.size + 1, i, none⟩ (.int .i64 (R : Int)) = V := ⟨_, rfl⟩
      rw [hV] at nO nb HA HF nr1 ⊢
      clear hV r1 r2 r3 rl q1 q2
      go_loopw [25] (fun o wx => ∃ n : Nat, n ≤ s ∧ o = .int .i64 n ∧ RegAt wx w.heap.size s t (stepsN s t n Y : Nat) ∧ wx.frozen? ⟨w.heap.size, 2, none⟩ = false ∧ OF wx (w.heap.size + 1) (.slice (some ⟨w.heap.size + 1, 0, none⟩) k k) k (fun j => if j < i + 1 then hsF s t x c j else 0) ∧ Below w.heap.size w wx) (fun o _ => s - (intOf o).toNat)
      case atStart => exact ⟨0, Nat.zero_le _, rfl, HA.out, HF.out, nO.out, nb.out⟩
      case round =>
        obtain ⟨n, hn, rfl, qA, qf, qO, qb⟩ := hrel
        clear HA HF nO nb nr1
        by_cases hns : n < s
        · go_wp2_with fail
          refine (step_any w.heap.size s t _ wr (HSY.out n) qA qf).mono ?_
          rintro e w2 ⟨⟨v, rfl⟩, pA, pf, hg⟩
          have pO := qO.kept hg (.inr (by simp [Value.ownBlock]))
          have pb := qb.grown hg qb.size (fun k e => by cases e; exact Nat.le_refl _)
          clear qA qf qO qb hg
          go_wp2
          go_roundw
          case rel => exact ⟨n + 1, by omega, by go_num, pA, pf, pO, pb⟩
          case measure => simp [intOf]; omega
        · obtain rfl : n = s := by omega
          go_wp2
          go_roundw
          case rel => exact ⟨i + 1, by omega, by go_num, qO, by rw [HNX2.out]; exact qA, qf, qb⟩
          case measure => simp [intOf]; omega
    · obtain rfl : i = k := by omega
      have nO := Lib.hid (rO.congr (g := hsF s t x c) (fun j hj => by rw [if_pos hj]))
      clear rO rA rf
      go_wp2
      go_ret
      exact ⟨_, rfl, nO.out.mono (by omega), rb⟩
set_option maxHeartbeats 1600000 in
theorem iSeq_any (S T X C K : Int) (w : World) :
    Calls Try.prog 28 #[.agg #[.int .i64 S, .int .i64 T, .int .i64 X], .int .i64 C, .int .i64 K] w fun e w' => ∃ u, e = .returned (.tuple #[u, .bool (hsB S T X C K)]) ∧ OF w' w.heap.size u (hsN S T X C K) (hsF S T X C) ∧ Below w.heap.size w w' := by
  have hch := fun w => iCh_any C w
  have hcn : ∀ w, Calls Try.prog 41 #[.int .i64 K] w fun e w' => e = .returned (.bool (cntB K)) ∧ w = w' := fun w => iCnt_any K w
  have hno := @hs_no S T X C K
  have hB : hsB S T X C K = (regB S T X && (chB C && cntB K)) := rfl
  have A0 := RegAt.new w 45 S T X
  have B0 := (Below.refl w.heap.size w).alloc (Nat.le_refl _) (.cells #[.int .i64 S, .int .i64 T, .int .i64 X] 45)
  obtain ⟨W, hW⟩ : ∃ W, w.alloc (.cells #[.int .i64 S, .int .i64 T, .int .i64 X] 45) = W := ⟨_, rfl⟩
  rw [hW] at A0 B0
  have HW := Lib.hid hW
  cases hR : regB S T X with
  | false =>
    rw [hR, Bool.false_and] at hB
    rw [hno hB, hB]
    have HV := Lib.hid (fun w => iRegisterValid_no S T X w hR)
    obtain ⟨a0, a1, a2, al⟩ := A0
    clear hch hcn hno hR hB hW
    go_enter Try.func28, Try.ntmps28
    go_wp2_with fail
    rw [HW.out]
    refine (HV.out _).mono ?_
    rintro e w1 ⟨rfl, b1⟩
    have b2 := below_then B0 (Nat.le_refl _) b1
    go_wp2
    go_ret2
    exact ⟨_, rfl, OF.nil _ _ _, b2⟩
  | true =>
    obtain ⟨s, t, x, rfl, rfl, rfl, hr⟩ := RegN.of hR
    have HV := Lib.hid (fun w => iRegisterValid_yes s t x w hr)
    rw [hR, Bool.true_and] at hB
    cases hC : chB C with
    | false =>
      rw [hC, Bool.false_and] at hB
      rw [hno hB, hB]
      rw [hC] at hch
      have HCH := Lib.hid hch
      obtain ⟨a0, a1, a2, al⟩ := A0
      clear hch hcn hno hR hB hW hC
      go_enter Try.func28, Try.ntmps28
      go_wp2_with fail
      rw [HW.out]
      refine (HV.out _).mono ?_
      rintro e w1 ⟨rfl, b1⟩
      have b2 := below_then B0 (Nat.le_refl _) b1
      go_wp2_with fail
      refine (HCH.out _).mono ?_
      rintro e w' ⟨rfl, rfl⟩
      go_wp2
      go_ret2
      exact ⟨_, rfl, OF.nil _ _ _, b2⟩
    | true =>
      rw [hC] at hch
      have HCH := Lib.hid hch
      cases hK : cntB K with
      | false =>
        rw [hC, hK, Bool.and_false] at hB
        rw [hno hB, hB]
        rw [hK] at hcn
        have HCN := Lib.hid hcn
        obtain ⟨a0, a1, a2, al⟩ := A0
        clear hch hcn hno hR hB hW hC hK
        go_enter Try.func28, Try.ntmps28
        go_wp2_with fail
        rw [HW.out]
        refine (HV.out _).mono ?_
        rintro e w1 ⟨rfl, b1⟩
        have b2 := below_then B0 (Nat.le_refl _) b1
        go_wp2_with fail
        refine (HCH.out _).mono ?_
        rintro e w' ⟨rfl, rfl⟩
        go_wp2_with fail
        refine (HCN.out _).mono ?_
        rintro e w' ⟨rfl, rfl⟩
        go_wp2
        go_ret2
        exact ⟨_, rfl, OF.nil _ _ _, b2⟩
      | true =>
        rw [hC, hK] at hB
        rw [hK] at hcn
        have HCN := Lib.hid hcn
        obtain ⟨c1, c2⟩ := (chB_iff C).1 hC
        obtain ⟨k1, k2⟩ := (cntB_iff K).1 hK
        obtain ⟨c, rfl⟩ : ∃ c : Nat, C = c := ⟨C.toNat, by omega⟩
        obtain ⟨k, rfl⟩ : ∃ k : Nat, K = k := ⟨K.toNat, by omega⟩
        have hN : hsN s t x c k = k := by unfold hsN; rw [hB]; rfl
        rw [hN, hB]
        have HG := Lib.hid (fun w => regHops_any s t x c k w hr (by omega) (by omega) (by omega))
        obtain ⟨a0, a1, a2, al⟩ := id A0
        have HA := Lib.hid A0
        clear hch hcn hno hR hB hW hC hK hN A0
        go_enter Try.func28, Try.ntmps28
        go_wp2_with fail
        rw [HW.out]
        refine (HV.out _).mono ?_
        rintro e w1 ⟨rfl, b1⟩
        have b2 := below_then B0 (Nat.le_refl _) b1
        have A1 := HA.out.below b1 al
        obtain ⟨d0, d1, d2, dl⟩ := id A1
        clear a0 a1 a2 b1 HA B0
        go_wp2_with fail
        refine (HCH.out _).mono ?_
        rintro e w' ⟨rfl, rfl⟩
        go_wp2_with fail
        refine (HCN.out _).mono ?_
        rintro e w' ⟨rfl, rfl⟩
        go_wp2_with fail
        refine (HG.out _).mono ?_
        rintro e w2 ⟨u, rfl, O2, b3⟩
        have b4 := below_then b2 (Nat.le_refl _) b3
        have bs := b2.size
        clear d0 d1 d2 dl A1 b2 b3
        go_wp2
        go_ret2
        exact ⟨_, rfl, O2.mono bs, b4⟩
set_option maxHeartbeats 1600000 in
theorem sSeq_any (S T X C K : Int) (w : World) :
    Calls Try.prog 54 #[.agg #[.int .i64 S, .int .i64 T, .int .i64 X], .int .i64 C, .int .i64 K] w fun e w' => ∃ u, e = .returned (.tuple #[u, .bool (hsB S T X C K)]) ∧ OF w' w.heap.size u (hsN S T X C K) (hsF S T X C) ∧ Below w.heap.size w w' := by
  have hch := fun w => sCh_any C w
  have hcn : ∀ w, Calls Try.prog 66 #[.int .i64 K, .int .i64 0, .int .i64 300] w fun e w' => e = .returned (.bool (cntB K)) ∧ w = w' := fun w => l1In_any K 0 300 w
  have hno := @hs_no S T X C K
  have hB : hsB S T X C K = (regB S T X && (chB C && cntB K)) := rfl
  have s1 : (w.alloc (.cells #[.int .i64 S, .int .i64 T, .int .i64 X] 45)).heap.size = w.heap.size + 1 := World.size_alloc _ _
  have B0 := (Below.refl w.heap.size w).alloc (Nat.le_refl _) (.cells #[.int .i64 S, .int .i64 T, .int .i64 X] 45)
  have b1 : Below (w.heap.size + 1) (w.alloc (.cells #[.int .i64 S, .int .i64 T, .int .i64 X] 45)) ((w.alloc (.cells #[.int .i64 S, .int .i64 T, .int .i64 X] 45)).alloc (.cells #[] 3)) := by
    rw [← s1]; exact (Below.refl _ _).alloc (Nat.le_refl _) _
  have A1 := (RegAt.new w 45 S T X).below b1 (Nat.lt_succ_self _)
  have F1 : ∀ o, ((w.alloc (.cells #[.int .i64 S, .int .i64 T, .int .i64 X] 45)).alloc (.cells #[] 3)).frozen? ⟨w.heap.size, o, none⟩ = false := fun o => (b1.frozen (p := ⟨w.heap.size, o, none⟩) (Nat.lt_succ_self _)).trans (by simp)
  have B1 := B0.alloc B0.size (.cells #[] 3)
  have O1 := OF.empty0 (w.alloc (.cells #[.int .i64 S, .int .i64 T, .int .i64 X] 45)) (hsF S T X C)
  rw [s1] at O1
  have HW1 := Lib.hid s1
  obtain ⟨W, hW⟩ : ∃ W, (w.alloc (.cells #[.int .i64 S, .int .i64 T, .int .i64 X] 45)).alloc (.cells #[] 3) = W := ⟨_, rfl⟩
  rw [hW] at A1 F1 B1 O1
  have HW := Lib.hid hW
  have HF1 := Lib.hid F1
  clear b1 B0 F1 hW s1
  cases hR : regB S T X with
  | false =>
    rw [hR, Bool.false_and] at hB
    rw [hno hB, hB]
    have HV := Lib.hid (fun w => sRegisterValid_no S T X w hR)
    obtain ⟨a0, a1, a2, al⟩ := A1
    clear hch hcn hno hR hB
    go_enter Try.func54, Try.ntmps54
    go_wp2_with fail
    try rw [HW1.out]
    rw [HW.out]
    refine (HV.out _).mono ?_
    rintro e w1 ⟨rfl, b1⟩
    have b2 := below_then B1 (Nat.le_refl _) b1
    have O2 := (O1.below b1).mono (Nat.le_succ _)
    clear O1
    go_wp2
    go_ret2
    exact ⟨_, rfl, O2, b2⟩
  | true =>
    obtain ⟨s, t, x, rfl, rfl, rfl, hr⟩ := RegN.of hR
    have HV := Lib.hid (fun w => sRegisterValid_yes s t x w hr)
    rw [hR, Bool.true_and] at hB
    cases hC : chB C with
    | false =>
      rw [hC, Bool.false_and] at hB
      rw [hno hB, hB]
      rw [hC] at hch
      have HCH := Lib.hid hch
      obtain ⟨a0, a1, a2, al⟩ := A1
      clear hch hcn hno hR hB hC
      go_enter Try.func54, Try.ntmps54
      go_wp2_with fail
      try rw [HW1.out]
      rw [HW.out]
      refine (HV.out _).mono ?_
      rintro e w1 ⟨rfl, b1⟩
      have b2 := below_then B1 (Nat.le_refl _) b1
      have O2 := (O1.below b1).mono (Nat.le_succ _)
      clear O1
      go_wp2_with fail
      refine (HCH.out _).mono ?_
      rintro e w' ⟨rfl, rfl⟩
      go_wp2
      go_ret2
      exact ⟨_, rfl, O2, b2⟩
    | true =>
      rw [hC] at hch
      have HCH := Lib.hid hch
      cases hK : cntB K with
      | false =>
        rw [hC, hK, Bool.and_false] at hB
        rw [hno hB, hB]
        rw [hK] at hcn
        have HCN := Lib.hid hcn
        obtain ⟨a0, a1, a2, al⟩ := A1
        clear hch hcn hno hR hB hC hK
        go_enter Try.func54, Try.ntmps54
        go_wp2_with fail
        try rw [HW1.out]
        rw [HW.out]
        refine (HV.out _).mono ?_
        rintro e w1 ⟨rfl, b1⟩
        have b2 := below_then B1 (Nat.le_refl _) b1
        have O2 := (O1.below b1).mono (Nat.le_succ _)
        clear O1
        go_wp2_with fail
        refine (HCH.out _).mono ?_
        rintro e w' ⟨rfl, rfl⟩
        go_wp2_with fail
        refine (HCN.out _).mono ?_
        rintro e w' ⟨rfl, rfl⟩
        go_wp2
        go_ret2
        exact ⟨_, rfl, O2, b2⟩
      | true =>
        rw [hC, hK] at hB
        rw [hK] at hcn
        have HCN := Lib.hid hcn
        obtain ⟨c1, c2⟩ := (chB_iff C).1 hC
        obtain ⟨k1, k2⟩ := (cntB_iff K).1 hK
        obtain ⟨c, rfl⟩ : ∃ c : Nat, C = c := ⟨C.toNat, by omega⟩
        obtain ⟨k, rfl⟩ : ∃ k : Nat, K = k := ⟨K.toNat, by omega⟩
        have hN : hsN s t x c k = k := by unfold hsN; rw [hB]; rfl
        rw [hN, hB]
        obtain ⟨a0, a1, a2, al⟩ := id A1
        have HA := Lib.hid A1
        have HLT := Lib.hid (fun n => steps_lt hr n)
        have HTW := Lib.hid (tw_le s hr.hi)
        have HSS := Lib.hid (fun n => hr.steps n)
        have HNX := Lib.hid (fun i => hs_next s t x i)
        have HAT := Lib.hid (fun i => hs_at s t x c i)
        have hs8 := hr.hi
        have HZ0 : Hid (stepsN s t (0 * s) x = x) := Lib.hid (by rw [Nat.zero_mul]; rfl)
        have HJ := Lib.hid (fun X w h => l1Jump_forth s t X s w h (by omega))
        have l0 : ¬ ((c : Int) = 0) := by omega
        have l1 : ((c : Int) == 0) = false := by simp; omega
        have hc1 : 1 ≤ c := by omega
        have hc2 : c ≤ 16 := by omega
        have hk3 : k ≤ 300 := by omega
        clear hch hcn hno hR hB hC hK hN A1 c1 c2 k1 k2
        go_enter Try.func54, Try.ntmps54
        go_wp2_with fail
        try rw [HW1.out]
        rw [HW.out]
        refine (HV.out _).mono ?_
        rintro e w1 ⟨rfl, b1⟩
        have b2 := below_then B1 (Nat.le_refl _) b1
        have A2 := HA.out.below b1 al
        have O2 := O1.below b1
        have F2 : Hid (∀ o, w1.frozen? ⟨w.heap.size, o, none⟩ = false) := Lib.hid (fun o => (b1.frozen (p := ⟨w.heap.size, o, none⟩) al).trans (HF1.out o))
        clear a0 a1 a2 al b1 HA B1 O1 HV
        go_wp2_with fail
        refine (HCH.out _).mono ?_
        rintro e w' ⟨rfl, rfl⟩
        go_wp2_with fail
        refine (HCN.out _).mono ?_
        rintro e w' ⟨rfl, rfl⟩
        go_wp2
        go_loopw [8, 9] (fun o q wr => ∃ i : Nat, i ≤ k ∧ q = .int .i64 i ∧ OF wr (w.heap.size + 1) o i (hsF s t x c) ∧ RegAt wr w.heap.size s t (stepsN s t (i * s) x : Nat) ∧ Hid (∀ o, wr.frozen? ⟨w.heap.size, o, none⟩ = false) ∧ Below w.heap.size w wr) (fun _ q _ => k - (intOf q).toNat)
        case atStart => exact ⟨0, Nat.zero_le _, rfl, O2, by rw [HZ0.out]; exact A2, F2, b2⟩
        case round =>
          obtain ⟨i, hi, rfl, rO, rA, rf, rb⟩ := hrel
          clear O2 A2 F2 b2
          by_cases hlt : i < k
          · obtain ⟨r1, r2, r3, rl⟩ := id rA
            have hlt2 := HLT.out (i * s)
            have hv := HAT.out i
            have hnx := HNX.out i
            have hss := HSS.out (i * s)
            obtain ⟨Y, hY⟩ : ∃ Y, stepsN s t (i * s) x = Y := ⟨_, rfl⟩
            rw [hY] at r3 hlt2 hv hnx hss rA
            have htw := HTW.out
            have t3 := hop_mod Y c
            obtain ⟨R, hR⟩ : ∃ R, Y % c = R := ⟨_, rfl⟩
            have hRc : R < c := by rw [← hR]; exact Nat.mod_lt _ hc1
            rw [hR] at t3 hv
            have bs := rb.size
            have HV := Lib.hid hv
            have HJJ := Lib.hid (fun w => HJ.out Y w hss)
            have HNX2 := Lib.hid hnx
            obtain ⟨Z, hZ⟩ : ∃ Z, stepsN s t s Y = Z := ⟨_, rfl⟩
            rw [hZ] at HJJ HNX2
            clear hv hR hY hss hnx hZ
            go_wp2_with (at_builtin; refine wpList_append_int rfl (.tmp 30) (.tmp 35) rfl (w.heap.size + 1) _ i (hsF s t x c) rfl (rO.alloc _) wr.heap.size 1 (R : Int) rfl (by simp) (by omega) (by simp; omega) ?_; intro v' w3 O3 g3; have c3 : Below w.heap.size w w3 := (rb.alloc bs _).grown g3 (by simp; omega) (fun q hq => by have := (rO.lt q hq).1; omega); have O4 := OF.snocH O3 HV.out.symm; have hne : some w.heap.size ≠ Value.ownBlock _ := fun e => (by have := (rO.lt _ e.symm).1; omega); have A4 : RegAt w3 w.heap.size s t (Y : Nat) := (rA.kept (World.grownBy_alloc wr (.cells #[.int .i64 (R : Int)] 3) none) (by simp)).kept g3 hne; have F4 : Hid (∀ o, w3.frozen? ⟨w.heap.size, o, none⟩ = false) := Lib.hid (fun o => frozen_kept' (frozen_kept' (rf.out o) rl (World.grownBy_alloc wr (.cells #[.int .i64 (R : Int)] 3) none) (by simp)) (by simp; omega) g3 hne); obtain ⟨e1, e2, e3, el⟩ := id A4; clear rO g3 rb O3 rA rf hne r1 r2 r3)
            refine (HJJ.out _).mono ?_
            rintro e w4 ⟨rfl, hb4⟩
            have A5 := A4.below hb4 el
            have O5 := O4.below hb4
            have F5 : Hid (∀ o, w4.frozen? ⟨w.heap.size, o, none⟩ = false) := Lib.hid (fun o => (hb4.frozen (p := ⟨w.heap.size, o, none⟩) el).trans (F4.out o))
            have c5 := below_then c3 (Nat.le_refl _) hb4
            clear A4 O4 F4 c3 hb4 e1 e2 e3 el
            obtain ⟨m0, m1, m2, ml⟩ := id A5
            have f0 := F5.out 0
            have f1 := F5.out 1
            have f2 := F5.out 2
            obtain ⟨sA, sF, sG⟩ := A5.set3 s t (Z : Nat)
            have sO := O5.kept sG (by
              cases h0 : Value.ownBlock v' with
              | none => exact .inl rfl
              | some q => right; intro e; injection e with e; have := (O5.lt q h0).1; omega)
            have sB := c5.grown sG c5.size (fun k e => by cases e; exact Nat.le_refl _)
            have HSF := Lib.hid sF
            clear sF A5 O5 c5 sG
            go_wp2
            go_roundw
            case rel => exact ⟨i + 1, by omega, by go_num, sO, by rw [HNX2.out]; exact sA, Lib.hid (fun o => (HSF.out _).trans (F5.out o)), sB⟩
            case measure => simp [intOf]; omega
          · obtain rfl : i = k := by omega
            clear rA rf
            go_wp2
            go_ret2
            exact ⟨_, rfl, rO.mono (Nat.le_succ _), rb⟩
end Go.Proofs.Ytbllmgdnhjdphac
