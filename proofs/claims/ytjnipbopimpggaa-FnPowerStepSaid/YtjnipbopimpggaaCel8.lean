/- PowerStep of the model. -/
import Derived.Test.YtjnipbopimpggaaCel7
namespace Go.Proofs.Ytjnipbopimpggaa
open Go.RowKit
set_option linter.unusedVariables false
set_option maxRecDepth 100000
set_option maxHeartbeats 6400000 in
theorem sStep_any (v : Value) (n : Nat) (f : Nat → Usr) (T : Int) (w : World) (h : UsrsC w v n f) (hn : n ≤ 1048576) (hf : UsrSz n f) :
    Calls Try.prog 26 #[v, .int .i64 T] w fun e w' => ∃ u, e = .returned (.tuple #[u, .bool (psB n f T)]) ∧ TF w' w.heap.size u (psN n f T) (psF T f) ∧ Below w.heap.size w w' := by
  unfold psN
  have hv := fun w h => sCell_any v n f w h hn hf
  have ht := fun w => l8Target_any T w
  rw [show (decide (0 ≤ T) && decide (T ≤ 40)) = tgB T from rfl] at ht
  have HI := Lib.hid h
  obtain ⟨a, cap, rfl, hm, hc⟩ := id h
  have HC := Lib.hid hc
  clear hc hm h
  cases h1 : cellB n f with
  | false =>
    rw [ps_no (T := T) h1, if_neg (by simp)]
    rw [h1] at hv
    have HV := Lib.hid hv
    clear hv ht h1
    go_enter Try.func26, Try.ntmps26
    go_wp2_with fail
    refine (HV.out _ HI.out).mono ?_
    rintro e w1 ⟨rfl, b1⟩
    have OE := Lib.hid ((TF.empty0 w1 (psF T f)).mono b1.size)
    have be := b1.alloc b1.size (.cells #[] 33)
    clear b1
    go_wp2
    go_ret2
    exact ⟨_, rfl, OE.out, be⟩
  | true =>
    rw [h1] at hv
    have HV := Lib.hid hv
    clear hv
    cases h2 : tgB T with
    | false =>
      rw [ps_out (n := n) (f := f) h2, if_neg (by simp)]
      rw [h2] at ht
      have HT := Lib.hid ht
      clear ht h1 h2
      go_enter Try.func26, Try.ntmps26
      go_wp2_with fail
      refine (HV.out _ HI.out).mono ?_
      rintro e w1 ⟨rfl, b1⟩
      go_wp2_with fail
      refine (HT.out _).mono ?_
      rintro e w' ⟨rfl, rfl⟩
      have OE := Lib.hid ((TF.empty0 w1 (psF T f)).mono b1.size)
      have be := b1.alloc b1.size (.cells #[] 33)
      clear b1
      go_wp2
      go_ret2
      exact ⟨_, rfl, OE.out, be⟩
    | true =>
      rw [ps_yes h1 h2, if_pos rfl]
      have n8 := cellC_le h1
      obtain ⟨t0, t1⟩ := (tg_iff T).1 h2
      have HS := Lib.hid (fun k (hk : k < n) => (stnB_iff _ _ _ _).1 (cellC_at h1 hk))
      have HG := Lib.hid (fun k (hk : k < n) w => l8Goal_any (f k).code (f k).data (f k).gain (f k).delay T w t0 t1 (HS.out k hk).2.2.2.2.1 (HS.out k hk).2.2.2.2.2)
      rw [h2] at ht
      have HT := Lib.hid ht
      clear ht h1 h2
      go_enter Try.func26, Try.ntmps26
      go_wp2_with fail
      refine (HV.out _ HI.out).mono ?_
      rintro e w1 ⟨rfl, b1⟩
      go_wp2_with fail
      refine (HT.out _).mono ?_
      rintro e w' ⟨rfl, rfl⟩
      have be := b1.alloc b1.size (.cells #[] 33)
      have OE := (TF.empty0 w1 f).mono b1.size
      have UI := (HI.out.below be)
      have hse : Hid (w.heap.size ≤ (w1.alloc (.cells #[] 33)).heap.size) := Lib.hid be.size
      have HBE := Lib.hid be
      have HOE := Lib.hid OE
      have HUI := Lib.hid UI
      have hgw : w1.heap.size < (w1.alloc (.cells #[] 33)).heap.size := by simp
      have HW1 : Hid (w.heap.size ≤ w1.heap.size) := Lib.hid b1.size
      clear be OE UI b1
      go_wp2_with (at_builtin; refine wpList_append_stations rfl (.tmp 18) (.tmp 19) rfl w.heap.size (.slice (some ⟨w1.heap.size, 0, none⟩) 0 0) 0 f rfl HOE.out (.slice a n cap) n f rfl HUI.out (by omega) hse.out ?_; intro v2 w2 O2 g2)
      have b2 : Below w.heap.size w w2 := HBE.out.grown g2 HBE.out.size (fun q hq => by cases hq; exact HW1.out)
      have O3 : TF w2 w.heap.size v2 n f := by
        have := O2.congr (g := f) (fun i hi => by rw [if_neg (Nat.not_lt_zero i), Nat.sub_zero])
        rwa [Nat.zero_add] at this
      clear O2 g2 HBE HOE HUI hse hgw
      obtain ⟨a2, c2, rfl, hg2⟩ := O3.form
      have HG2 := Lib.hid hg2
      clear hg2
      go_wp2
      go_loopw [7] (fun i wr => ∃ (k : Nat) (F : Nat → Usr), k ≤ n ∧ i = .int .i64 k ∧ TF wr w.heap.size (.slice a2 n c2) n F ∧ Hid (∀ i, F i = if i < k then psF T f i else f i) ∧ Below w.heap.size w wr) (fun i _ => n - (intOf i).toNat)
      case atStart => exact ⟨0, f, by omega, rfl, O3, Lib.hid (fun i => by rw [if_neg (by omega)]), b2⟩
      case round =>
        obtain ⟨k, F, hk, rfl, rO, rF, rb⟩ := hrel
        clear O3 b2
        by_cases hlt : k < n
        · obtain ⟨g, rfl, hgB, hgl⟩ := HG2.out (by omega)
          have i0 : (0 : Int) ≤ (k : Int) := by omega
          have i1 : (k : Int) < (n : Int) := by omega
          have hg := HG.out k hlt
          obtain ⟨-, -, g0, g1, e0, e1⟩ := HS.out k hlt
          obtain ⟨m0, m1⟩ := mul_goal t0 t1 e0 e1
          have hFk : F k = f k := by rw [rF.out k, if_neg (Nat.lt_irrefl k)]
          have hps : psF T f k = ⟨(f k).code, (f k).data, (f k).gain + stepI (T * (f k).delay) (f k).gain, (f k).delay⟩ := rfl
          have cc := rO.cells k hlt
          rw [hFk] at cc
          obtain ⟨c0, c1, c2, c3⟩ := cc
          obtain ⟨C, hC⟩ : ∃ C, (f k).code = C := ⟨_, rfl⟩
          obtain ⟨D, hDD⟩ : ∃ C, (f k).data = C := ⟨_, rfl⟩
          obtain ⟨X, hX⟩ : ∃ C, (f k).gain = C := ⟨_, rfl⟩
          obtain ⟨Y, hYY⟩ : ∃ C, (f k).delay = C := ⟨_, rfl⟩
          rw [hC, hDD, hX, hYY] at hg hps
          rw [hX] at g0 g1
          rw [hYY] at e0 e1 m0 m1
          rw [hC] at c0
          rw [hDD] at c1
          rw [hX] at c2
          rw [hYY] at c3
          obtain ⟨M, hM⟩ : ∃ M, T * Y = M := ⟨_, rfl⟩
          rw [hM] at hg hps m0 m1
          have HGk := Lib.hid hg
          have HK := Lib.hid (show F k = ⟨C, D, X, Y⟩ by rw [hFk, ← hC, ← hDD, ← hX, ← hYY])
          have HPS := Lib.hid hps
          have F6 : Hid (∀ Z, stepI M X = Z → ∀ i, upU F k ⟨(F k).code, (F k).data, X + Z, (F k).delay⟩ i = if i < k + 1 then psF T f i else f i) := Lib.hid (fun Z hZ i => by
            by_cases e : i = k
            · rw [e, upU_eq, if_pos (by omega), HPS.out, HK.out, hZ]
            · rw [upU_ne e, rF.out i]
              by_cases e2 : i < k
              · rw [if_pos e2, if_pos (by omega)]
              · rw [if_neg e2, if_neg (by omega)])
          have F7 : Hid (stepI M X = 0 → ∀ i, F i = if i < k + 1 then psF T f i else f i) := Lib.hid (fun hZ i => by
            by_cases e : i = k
            · rw [e, if_pos (by omega), HPS.out, HK.out, hZ, Int.add_zero]
            · rw [rF.out i]
              by_cases e2 : i < k
              · rw [if_pos e2, if_pos (by omega)]
              · rw [if_neg e2, if_neg (by omega)])
          clear hg hC hDD hX hYY hM hps hFk
          go_wp2_with fail
          clear c0 c1 c2 c3
          refine (HGk.out _).mono ?_
          rintro e w5 ⟨rfl, hb5⟩
          have O5 := rO.below hb5
          have r5 := below_then rb (Nat.le_refl _) hb5
          have fr := O5.free
          have d2 := (O5.cells k hlt).2.2.1
          rw [HK.out] at d2
          dsimp only at d2
          clear hb5 rO rb
          by_cases q1 : X < M
          · have O6 := Lib.hid (O5.set2 k (X + 1))
            have r6 : Hid (Below w.heap.size w (w5.setCell ⟨g, k * 4 + 2, none⟩ (.int .i64 (X + 1)))) := Lib.hid (r5.setCell (p := ⟨g, k * 4 + 2, none⟩) hgB _)
            have F8 := Lib.hid (F6.out 1 (by unfold stepI; rw [if_neg (by omega), if_pos q1]))
            clear O5 r5 F6 F7
            go_wp2
            go_roundw
            case rel => exact ⟨k + 1, _, by omega, by go_num, O6.out, F8, r6.out⟩
            case measure => simp [intOf]; omega
          · by_cases q2 : M < X
            · have O6 := Lib.hid (O5.set2 k (X + -1))
              have r6 : Hid (Below w.heap.size w (w5.setCell ⟨g, k * 4 + 2, none⟩ (.int .i64 (X + -1)))) := Lib.hid (r5.setCell (p := ⟨g, k * 4 + 2, none⟩) hgB _)
              have F8 := Lib.hid (F6.out (-1) (by unfold stepI; rw [if_pos q2]))
              have HX1 := Lib.hid (show X - 1 = X + -1 by omega)
              clear O5 r5 F6 F7
              go_wp2
              go_roundw
              case rel => exact ⟨k + 1, _, by omega, by go_num, by rw [HX1.out]; exact O6.out, F8, by rw [HX1.out]; exact r6.out⟩
              case measure => simp [intOf]; omega
            · have F8 := Lib.hid (F7.out (by unfold stepI; rw [if_neg q2, if_neg q1]))
              clear F6 F7
              go_wp2
              go_roundw
              case rel => exact ⟨k + 1, _, by omega, by go_num, O5, F8, r5⟩
              case measure => simp [intOf]; omega
        · obtain rfl : n = k := by omega
          have O9 := Lib.hid (rO.congr (g := psF T f) (fun j hj => by rw [rF.out j, if_pos hj]))
          clear rO
          go_wp2
          go_ret2
          exact ⟨_, rfl, O9.out, rb⟩
end Go.Proofs.Ytjnipbopimpggaa
