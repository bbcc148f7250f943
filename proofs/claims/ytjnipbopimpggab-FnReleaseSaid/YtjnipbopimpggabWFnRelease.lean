/- The walk of the law FnRelease. -/
import Derived.Test.YtjnipbopimpggabRelMath
import Derived.Test.YtjnipbopimpggabDrawCel4
import Derived.Test.YtjnipbopimpggabSsCells
import Derived.Test.YtjnipbopimpggabFamWorst
import Derived.BigQuiet
namespace Go.Proofs.Ytjnipbopimpggab
open Go.RowKit
set_option linter.unusedVariables false
set_option maxHeartbeats 6400000 in
set_option maxRecDepth 100000 in
theorem fnRelease_walk (a0 : Option Addr) (len0 cap0 : Nat) (z0 : List Int) (a1 : Option Addr) (len1 cap1 : Nat) (z1 : List Int) (w : World) (w0 : IsBytes w a0 len0 cap0 z0) (wm : IsBytes w a1 len1 cap1 z1) :
    Calls Try.prog 5 #[.slice a0 len0 cap0, .slice a1 len1 cap1] w fun e w' => e = .returned (.bool true) ∧ Below w.heap.size w w' := by
  by_cases hl0 : 1048576 < len0
  · go_enter Try.func5, Try.ntmps5
    go_wp2
    go_ret
    exact ⟨rfl, Below.refl _ _⟩
  by_cases hl1 : 1048576 < len1
  · go_enter Try.func5, Try.ntmps5
    go_wp2
    go_ret
    exact ⟨rfl, Below.refl _ _⟩
  go_enter Try.func5, Try.ntmps5
  go_wp2_with fail
  refine (drawRelease_any a0 len0 cap0 z0 _ w0).mono ?_
  rintro e w1 ⟨v, n, f, z, rfl, O1, hn, hf, hz, bc⟩
  have hsz := DrT.sz hf
  clear hf w0 wm
  have HI := Lib.hid (fun w h => iRel_any v n f z w h (by omega) hsz (by omega))
  have HS := Lib.hid (fun w h => sRel_any v n f z w h (by omega) hsz (by omega))
  have HK := Lib.hid (fun h => rl_math (n := n) (f := f) (z := z) h)
  have hgood := fun h => (show rlN n f z = n - 1 by unfold rlN; rw [if_pos h])
  have hle := rlN_le (n := n) (f := f) (z := z) (by omega)
  obtain ⟨K, hK⟩ : ∃ K, rlB n f z = K := ⟨_, rfl⟩
  obtain ⟨F, hF⟩ : ∃ K, rlF n f z = K := ⟨_, rfl⟩
  obtain ⟨N, hN⟩ : ∃ K, rlN n f z = K := ⟨_, rfl⟩
  have HF := Lib.hid hF
  rw [hK, hF, hN] at HI HS
  rw [hK] at HK
  rw [hK, hN] at hgood
  rw [hN] at hle
  clear hK hF hN
  have HSZ := Lib.hid hsz
  clear hsz
  have HO1 := Lib.hid O1
  obtain ⟨av, cv, rfl, -⟩ := id O1.stationsC
  clear O1
  go_wp2_with fail
  refine (HI.out _ HO1.out.stationsC).mono ?_
  rintro e w2 ⟨vx, rfl, X2, n2⟩
  have O2 := Lib.hid (HO1.out.below n2)
  have b2 := below_then bc (Nat.le_refl _) n2
  clear bc n2
  go_wp2_with fail
  refine (HS.out _ O2.out.stationsC).mono ?_
  rintro e w3 ⟨vy, rfl, Y3, n3⟩
  have O3 := Lib.hid (O2.out.below n3)
  have X3 := Lib.hid (X2.below n3)
  have HY3 := Lib.hid Y3
  have b3 := below_then b2 (Nat.le_refl _) n3
  clear O2 X2 Y3 b2 n3 HO1
  go_wp2_with fail
  refine (ssCells_same vx vy N F _ X3.out.stations HY3.out.stations hle).mono ?_
  rintro e w4 ⟨rfl, m4, rfl⟩
  have O4 := Lib.hid (O3.out.drewN m4)
  have X4 := Lib.hid (X3.out.drewN m4)
  have Y4 := Lib.hid (HY3.out.drewN m4)
  have b4 := below_drewN b3 m4
  obtain ⟨w4, hw4⟩ : ∃ x, w3.drewN m4 = x := ⟨_, rfl⟩
  rw [hw4] at O4 X4 Y4 b4 ⊢
  obtain ⟨B1, hB1⟩ : ∃ x, w1.heap.size = x := ⟨_, rfl⟩
  rw [hB1] at X4
  clear O3 X3 HY3 b3 hw4 hB1
  have e0 : (K != K) = false := by simp
  cases K with
  | false =>
    clear hgood HK
    go_wp2_with fail
    refine (ssCells_same vx vy N F _ X4.out.stations Y4.out.stations hle).mono ?_
    rintro e w5 ⟨rfl, m5, rfl⟩
    have b5 := below_drewN b4 m5
    clear b4
    go_wp2
    go_ret
    exact ⟨rfl, b5⟩
  | true =>
    have hN := hgood rfl
    obtain ⟨M, r, rfl, hr, hix, hM8, k1, k2, k3, k4⟩ := HK.out rfl
    have hFc : F = cutU f r := by rw [← HF.out]; unfold rlF; rw [hix]
    subst hFc
    obtain rfl : N = M := by omega
    clear HK hgood Y4 e0 HF hix hN HI HS
    have H1 := Lib.hid k1
    have hszc := cutU_sz HSZ.out hr
    have HC := Lib.hid (fun u w h => iCell_any u N (cutU f r) w h (by omega) hszc)
    rw [k2] at HC
    have HDz : (f r).data.size ≤ 1048576 := (HSZ.out r (by omega)).2
    obtain ⟨P, hP⟩ : ∃ P, (f r).data = P := ⟨_, rfl⟩
    rw [hP] at k3 k4 HDz
    have hPs : ((P.size : Nat) : Int) ≤ 1048576 := by omega
    have HA : Hid (∀ (L : Int), 1 ≤ L → L ≤ 20 → ∀ u w, UsrsC w u N (cutU f r) → Calls Try.prog 14 #[u, .string z, .int .i64 ((P.size : Nat) : Int), .int .i64 L] w fun e w' => ∃ u, e = .returned (.tuple #[u, .bool true]) ∧ TF w' w.heap.size u (N + 1) (adF N (cutU f r) z ((P.size : Nat) : Int) L) ∧ Below w.heap.size w w') := Lib.hid (fun L l0 l1 u w h => by
      have := iAdm_any u N (cutU f r) z ((P.size : Nat) : Int) L w h (by omega) hszc (by omega)
      unfold adN at this
      rw [k4 L l0 l1] at this
      simpa using this)
    have HX : Hid (∀ i, i < N → ∀ w, Calls Try.prog 21 #[.string P, .string (pthF (cutU f r) i)] w fun e w' => e = .returned (.bool false) ∧ ∃ m, w' = w.drewN m) := Lib.hid (fun i hi w => by
      have := iConf_any P (cutU f r i).data w (by omega) (by have := (hszc i hi).2; omega)
      rw [k3 i hi] at this
      exact this)
    have HPP := Lib.hid hP
    clear k1 k2 k3 k4 hszc hP
    obtain ⟨g, rfl⟩ : ∃ g, av = some ⟨g, 0, none⟩ := by
      obtain ⟨a, cap, e, h⟩ := O4.out.form
      injection e with e1 _ e2
      subst e1
      obtain ⟨g, rfl, _, hg⟩ := h (by omega)
      exact ⟨g, rfl⟩
    obtain ⟨ax, cx, rfl, -⟩ := id X4.out.form
    have hlo : Hid (∀ q, Value.ownBlock (.slice (some ⟨g, 0, none⟩) (N + 1) cv) = some q → q < w4.heap.size) := Lib.hid (fun q e => (O4.out.lt q e).2)
    have hlx : Hid (∀ q, Value.ownBlock (.slice ax N cx) = some q → q < w4.heap.size) := Lib.hid (fun q e => (X4.out.lt q e).2)
    have OS := SF.empty w4 (pthF (cutU f r))
    have hBs := b4.size
    have hsb : w4.heap.size ≤ (w4.alloc (.cells #[] 9)).heap.size := by simp
    have b5 := b4.alloc b4.size (.cells #[] 9)
    have O5 := O4.out.alloc (.cells #[] 9)
    have X5 := X4.out.alloc (.cells #[] 9)
    obtain ⟨B, hB⟩ : ∃ B, w4.heap.size = B := ⟨_, rfl⟩
    clear b4 O4 X4
    go_wp2_with fail
    obtain ⟨V, hV⟩ : ∃ V, w4.alloc (.cells #[] 9) = V := ⟨_, rfl⟩
    rw [hB] at hBs OS hlo hlx
    have hsb2 : B ≤ (w4.alloc (.cells #[] 9)).heap.size := by rw [← hB]; exact hsb
    rw [hV] at OS b5 O5 X5 hsb2 ⊢
    have HSB := Lib.hid hsb2
    have HBS := Lib.hid hBs
    clear hV hB hBs hsb hsb2
    go_loopw [11, 12, 13] (fun p x i wr => ∃ (k m : Nat) (Q : ByteArray), k ≤ N + 1 ∧ i = .int .i64 k ∧ p = .string Q ∧ SF wr B x m (pthF (cutU f r)) ∧ Hid (k ≤ r → m = k) ∧ Hid (r < k → m + 1 = k ∧ Q = P) ∧ TF wr w.heap.size (.slice (some ⟨g, 0, none⟩) (N + 1) cv) (N + 1) f ∧ TF wr B1 (.slice ax N cx) N (cutU f r) ∧ B ≤ wr.heap.size ∧ Below w.heap.size w wr) (fun _ _ i _ => N + 1 - (intOf i).toNat)
    case atStart => exact ⟨0, 0, ⟨#[]⟩, by omega, rfl, rfl, OS, Lib.hid (fun _ => rfl), Lib.hid (fun h => by omega), O5, X5, HSB.out, b5⟩
    case round =>
      obtain ⟨k, m, Q, hk, rfl, rfl, rO, m1, m2, rV, rX, rB, rb⟩ := hrel
      clear OS O5 X5 b5
      by_cases hlt : k < N + 1
      · obtain ⟨c0, c1, -, -⟩ := rV.cells k hlt
        have hgw : g < wr.heap.size := (rV.lt g rfl).2
        have hkey := H1.out k hlt
        have i0 : (0 : Int) ≤ (k : Int) := by omega
        have i1 : (k : Int) < ((N + 1 : Nat) : Int) := by omega
        obtain ⟨C, hC⟩ : ∃ C, (f k).code = C := ⟨_, rfl⟩
        obtain ⟨Y, hY⟩ : ∃ C, (f k).data = C := ⟨_, rfl⟩
        rw [hC] at c0 hkey
        rw [hY] at c1
        have HY := Lib.hid hY
        have HV := Lib.hid rV
        have HX5 := Lib.hid rX
        clear hC hY rV rX
        by_cases e : k = r
        · have hq : (C.toList == z.toList) = true := by rw [hkey]; exact decide_eq_true e
          have HE : Hid (m + 1 = k + 1 ∧ Y = P) := Lib.hid ⟨by rw [m1.out (by omega)], by rw [← HY.out, e]; exact HPP.out⟩
          have HR := Lib.hid e
          clear hkey e
          go_wp2
          go_roundw
          case rel => exact ⟨k + 1, m, Y, by omega, by go_num, rfl, rO, Lib.hid (fun h => by have := HR.out; omega), Lib.hid (fun _ => HE.out), HV.out, HX5.out, rB, rb⟩
          case measure => simp [intOf]; omega
        · have hq : (C.toList == z.toList) = false := by rw [hkey]; exact decide_eq_false e
          have HM : Hid (pthF (cutU f r) m = Y) := Lib.hid (by
            rw [← HY.out]
            show (cutU f r m).data = _
            unfold cutU
            rcases Nat.lt_or_ge k r with l | l
            · rw [m1.out (by omega), if_pos l]
            · have := (m2.out (by omega)).1
              rw [if_neg (by omega), this])
          have HE1 : Hid (k + 1 ≤ r → m + 1 = k + 1) := Lib.hid (fun h => by rw [m1.out (by omega)])
          have HE2 : Hid (r < k + 1 → m + 1 + 1 = k + 1 ∧ Q = P) := Lib.hid (fun h => by have := m2.out (by omega); exact ⟨by omega, this.2⟩)
          have hm8 : m ≤ N := by
            rcases Nat.lt_or_ge r k with l | l
            · have := (m2.out l).1; omega
            · have := m1.out l; omega
          have O2 := Lib.hid (rO.alloc (.cells #[.string Y] 9))
          have r2 := Lib.hid (rb.alloc rb.size (.cells #[.string Y] 9))
          have cY : Hid ((wr.alloc (.cells #[.string Y] 9)).cell? ⟨wr.heap.size, 0, none⟩ = some (.string Y)) := Lib.hid (by simp)
          have V2 := Lib.hid (HV.out.alloc (.cells #[.string Y] 9))
          have X2 := Lib.hid (HX5.out.alloc (.cells #[.string Y] 9))
          have hBr2 : B ≤ (wr.alloc (.cells #[.string Y] 9)).heap.size := by simp; omega
          obtain ⟨a3, c3, rfl, -⟩ := rO.form
          clear hkey e rO rb HV HX5
          go_wp2_with (at_builtin; refine wpList_append_str rfl (.tmp 82) (.tmp 88) rfl B (.slice a3 m c3) m (pthF (cutU f r)) rfl O2.out wr.heap.size 1 Y rfl cY.out (by omega) hBr2 ?_; intro v4 w4 O4 g4; have lo := fun q hq => (O2.out.lt q hq).1; have O5 := Lib.hid (SF.grown O4 HM.out); have HB4 := Lib.hid (Nat.le_trans hBr2 g4.size); have b4 : Hid (Below w.heap.size w w4) := Lib.hid (r2.out.grown g4 r2.out.size (fun q hq => Nat.le_trans HBS.out (lo q hq))); have V9 := Lib.hid (V2.out.past hlo.out g4 lo); have X9 := Lib.hid (X2.out.past hlx.out g4 lo))
          clear O2 r2 cY O4 g4 lo c0 c1
          go_roundw
          case rel => exact ⟨k + 1, m + 1, Q, by omega, by go_num, rfl, O5.out, HE1, HE2, V9.out, X9.out, HB4.out, b4.out⟩
          case measure => simp [intOf]; omega
      · obtain rfl : k = N + 1 := by omega
        obtain ⟨hm, rfl⟩ := m2.out (by omega)
        obtain rfl : m = N := by omega
        have HV := Lib.hid rV
        have HX5 := Lib.hid rX
        obtain ⟨a3, c3, rfl, ha3⟩ := rO.put
        have HA3 := Lib.hid ha3
        have HRB := Lib.hid rb
        clear m1 m2 hm rO rV rX rb ha3
        go_wp2_with fail
        go_loopw [14] (fun i ww => ∃ k j : Nat, k ≤ m ∧ i = .int .i64 k ∧ ww = wr.drewN j) (fun i _ => m - (intOf i).toNat)
        case atStart => exact ⟨0, 0, by omega, rfl, rfl⟩
        case round =>
          obtain ⟨k, j, hk, rfl, rfl⟩ := hrel
          by_cases hlt : k < m
          · obtain ⟨y, rfl, hy, cy⟩ := HA3.out k hlt
            have hcf := Lib.hid (HX.out k hlt)
            obtain ⟨Y, hY⟩ : ∃ C, pthF (cutU f r) k = C := ⟨_, rfl⟩
            rw [hY] at cy hcf
            have i0 : (0 : Int) ≤ (k : Int) := by omega
            have i1 : (k : Int) < (m : Int) := by omega
            clear hY
            go_wp2_with fail
            refine (hcf.out _).mono ?_
            rintro e ww ⟨rfl, j2, rfl⟩
            go_wp2
            go_roundw
            case rel =>
              refine ⟨_, _, _, _, _, _, _, _, _, _, _, _, _, _, ?_, rfl⟩
              exact ⟨k + 1, j + j2, by omega, by go_num, rfl⟩
            case measure => simp [intOf]; omega
          · obtain rfl : k = m := by omega
            have X6 := Lib.hid (HX5.out.drewN j)
            have b6 := below_drewN HRB.out j
            clear HRB HX5 HV
            go_wp2_with fail
            refine (HA.out _ (by omega) (by omega) _ _ X6.out.stationsC).mono ?_
            rintro e w8 ⟨vt, rfl, T8, n8⟩
            have X8 := Lib.hid (X6.out.below n8)
            have b8 := below_then b6 (Nat.le_refl _) n8
            obtain ⟨at8, ct8, rfl, -⟩ := T8.form
            clear X6 b6 n8 T8
            go_wp2_with fail
            refine (HC.out _ _ X8.out.stationsC).mono ?_
            rintro e w9 ⟨rfl, n9⟩
            have b9 := below_then b8 (Nat.le_refl _) n9
            clear b8 n9
            go_wp2
            go_ret
            exact ⟨rfl, b9⟩
end Go.Proofs.Ytjnipbopimpggab
