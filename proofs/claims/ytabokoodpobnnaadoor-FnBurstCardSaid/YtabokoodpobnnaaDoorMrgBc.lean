/- HammingDecode of the program. OpenPayload: what both sides answer. -/
import Derived.Test.YtabokoodpobnnaaDoorFrm13
import Derived.Test.YtabokoodpobnnaaDoorOrd
import Derived.Test.YtabokoodpobnnaaDoorFrm3
import Derived.Test.YtabokoodpobnnaaDoorMrgBa
import Derived.Test.YtabokoodpobnnaaDoorMrgBb
import Derived.BigQuiet
namespace Go.Proofs.YtabokoodpobnnaaDoor
open Go.RowKit Go.Shelf
set_option linter.unusedVariables false
set_option maxRecDepth 100000
set_option maxHeartbeats 1600000 in
theorem iHd_any (z : ByteArray) (w : World) (hs : z.size ≤ 1048576) (hp : PlacesAt w) (h0 : 0 < w.heap.size) :
    Calls Tryd.prog 14 #[.string z] w fun e w' => e = .returned (.tuple #[.string (hdAns z).1, .int .i64 (hdAns z).2.1, .bool (hdAns z).2.2]) ∧ Below w.heap.size w w' := by
  have HV := Lib.hid (fun w => bitsValid_any z w (by omega))
  cases hb : bitsB z with
  | false =>
    have HX := Lib.hid (hd_no (z := z) (by rw [hb]; simp))
    rw [hb] at HV
    clear hb hp
    go_enter Tryd.func14, Tryd.ntmps14
    go_wp2_with fail
    refine (HV.out _).mono ?_
    rintro e w1 ⟨rfl, rfl⟩
    go_wp2
    refine bodyPost_ret (v := .tuple #[.string ⟨#[]⟩, .int .i64 0, .bool false]) (by simp [results, Tryd.results14, go_sem]) rfl ?_
    exact ⟨ret_H HX.out, Below.refl _ _⟩
  | true =>
    rw [hb] at HV
    obtain ⟨ho, h6⟩ := bits_of2 hb
    by_cases h7 : z.size % 7 = 0
    · obtain ⟨n, hn⟩ : ∃ n, z.size / 7 = n := ⟨_, rfl⟩
      have hzn : z.size = 7 * n := by omega
      have HX : Hid (hdAns z = (strF (4 * n) (decF z), ((cntF z n : Nat) : Int), true)) := Lib.hid (by unfold hdAns; rw [if_pos ⟨hb, h7⟩, hn, Nat.mul_comm n 4])
      have t1 : (z.size : Int) % 7 = 0 := by omega
      have HO := Lib.hid ho
      have HP := Lib.hid hp
      clear hb ho h7 hn hp
      go_enter Tryd.func14, Tryd.ntmps14
      go_wp2_with fail
      refine (HV.out _).mono ?_
      rintro e w1 ⟨rfl, rfl⟩
      go_wp2
      clear t1
      go_loopw [5, 6, 7] (fun s c i wr => ∃ b : Nat, b ≤ n ∧ i = .int .i64 (7 * b : Nat) ∧ BO wr w.heap.size s (4 * b) (decF z) ∧ c = .int .i64 (cntF z b : Nat) ∧ Below w.heap.size w wr) (fun _ _ i _ => z.size - (intOf i).toNat)
      case atStart => exact ⟨0, by omega, by simp, BO.nil _ _ _, rfl, Below.refl _ _⟩
      case round =>
        obtain ⟨b, hk, rfl, rO, rfl, b0⟩ := hrel
        have hpl := PlacesAt.below HP.out h0 b0
        by_cases hlt : b < n
        · have hle : 7 * b + 7 ≤ z.size := by omega
          have hsB := size_extract z (7 * b) (7 * b + 7) hle
          have hsy := syn_blk z b hle
          have hok := okCut HO.out (7 * b) (7 * b + 7) hle
          have hyz : ∀ j, j < 7 → zb (z.extract (7 * b) (7 * b + 7)) j = blkF z b j := fun j hj => by rw [zb_extract _ _ _ _ hle (by omega)]; rfl
          have hcl := cntF_le z b
          have hc1 : cntF z (b + 1) = cntF z b + (if synF (blkF z b) 7 = 0 then 0 else 1) := rfl
          have hKl := synF_lt (blkF z b) 7 (by omega)
          have hcor : ∀ j, corF (blkF z b) j = if synF (blkF z b) 7 = j + 1 then 97 - blkF z b j else blkF z b j := fun j => rfl
          have hdec : ∀ j, j < 4 → decF z (4 * b + j) = corF (blkF z b) (plF4 j) := fun j hj => by unfold decF; rw [show (4 * b + j) / 4 = b by omega, show (4 * b + j) % 4 = j by omega]
          obtain ⟨B, hB⟩ : ∃ B, z.extract (7 * b) (7 * b + 7) = B := ⟨_, rfl⟩
          obtain ⟨K, hK⟩ : ∃ K, synF (blkF z b) 7 = K := ⟨_, rfl⟩
          rw [hB] at hsB hsy hok hyz
          rw [hK] at hsy hc1 hKl hcor
          have hs7 : B.size = 7 := by omega
          obtain ⟨W1, c, hcv, hfr, hB1, hR⟩ := conv_row wr B hs7
          have hL := syn_any wr.heap.size 0 c (zb B) W1 (fun i hi => by rw [Nat.zero_add]; exact hR.2.1 i hi)
          rw [hsy] at hL
          have HPE : Hid (7 * (b + 1) = 7 * b + 7) := Lib.hid (by omega)
          obtain ⟨C, hC⟩ : ∃ C, cntF z b = C := ⟨_, rfl⟩
          rw [hC] at hc1 hcl ⊢
          obtain ⟨P, hP⟩ : ∃ P, 7 * b = P := ⟨_, rfl⟩
          rw [hP] at hB hle HPE ⊢
          obtain ⟨E, hE⟩ : ∃ E, P + 7 = E := ⟨_, rfl⟩
          rw [hE] at hB hle HPE
          have hE' : (P : Int) + 7 = (E : Int) := by omega
          have i0 : (0 : Int) ≤ (P : Int) := by omega
          have i1 : (P : Int) ≤ (E : Int) := by omega
          have i2 : (E : Int) ≤ (z.size : Int) := by omega
          have i3 : (P : Int) < (z.size : Int) := by omega
          have HL := Lib.hid hL
          have HEN := Lib.hid hE
          have HK := Lib.hid hlt
          have hCb : C ≤ 149797 := by omega
          have rO1 := rO.below hB1
          have bb1 := below_then b0 (Nat.le_refl _) hB1
          have hp1 := PlacesAt.below hpl (by have := b0.size; omega) hB1
          obtain ⟨g, hg⟩ : ∃ g, wr.heap.size = g := ⟨_, rfl⟩
          rw [hg] at hcv hR HL hfr
          by_cases hK0 : K = 0
          · have hy : ∀ j, j < 4 → decF z (4 * b + j) = zb B (plF4 j) := fun j hj => by rw [hdec j hj, hyz _ (by unfold plF4; split <;> (try omega); split <;> (try omega); split <;> omega), hcor, if_neg (by omega)]
            rw [if_pos hK0, Nat.add_zero] at hc1
            have HC1 := Lib.hid hc1
            have t1 : (((K : Nat) : Int) != 0) = false := by rw [hK0]; rfl
            obtain ⟨T, hT⟩ : ∃ T, ((K : Nat) : Int) = T := ⟨_, rfl⟩
            rw [hT] at HL t1
            obtain ⟨q0, q1, q2, q3⟩ := hp1
            obtain ⟨y, hyy⟩ : ∃ y, zb B = y := ⟨_, rfl⟩
            rw [hyy] at hR hy
            have HY := Lib.hid hy
            have HR := Lib.hid hR
            have HO1 := Lib.hid rO1
            have HBB := Lib.hid bb1
            clear hyz hcor hy hc1 hcl hK hsy hKl hL hok hlt hK0 hsB hC hE hP b0 hT hle hk hR rO1 bb1 hyy hs7 hdec hpl rO hB1 hfr
            go_wp2_with fail
            refine HL.out.mono ?_
            rintro e w1 ⟨rfl, rfl⟩
            go_wp2
            go_loopw [5, 50] (fun v i wx => ∃ j : Nat, j ≤ 4 ∧ i = .int .i64 j ∧ BO wx w.heap.size v (4 * b + j) (decF z) ∧ RowG wx g y ∧ Below w.heap.size w wx) (fun _ i _ => 4 - (intOf i).toNat)
            case atStart => exact ⟨0, by omega, rfl, by rw [Nat.add_zero]; exact HO1.out, HR.out, HBB.out⟩
            case round =>
              obtain ⟨j, hj, rfl, rI, rR, rb⟩ := hrel
              have hyr := rR.2.1
              by_cases hj4 : j < 4
              · rcases (by omega : j = 0 ∨ j = 1 ∨ j = 2 ∨ j = 3) with rfl | rfl | rfl | rfl
                · have cX := hyr 2 (by omega)
                  have HX1 : Hid (decF z (4 * b + 0) = y 2) := Lib.hid (HY.out 0 (by omega))
                  obtain ⟨X, hX⟩ : ∃ X, y 2 = X := ⟨_, rfl⟩
                  rw [hX] at cX HX1
                  clear hyr hX hj hj4
                  have hix : ∀ W : World, (Instr.index 56 (.agg #[.int .i64 3, .int .i64 5, .int .i64 6, .int .i64 7]) (.int .i64 0)).run Tryd.prog W = .ok (.int .i64 3) W := fun W => places_at W 0 3 (by omega)
                  go_wp2_with (at_builtin; refine wpList_append_bytes rfl (.tmp 53) (.tmp 59) rfl w.heap.size _ (4 * b + 0) (decF z) rfl (rI.alloc _) wr.heap.size 0 1 1 (fun _ => X) rfl (fun i hi => by have e0 : i = 0 := (by omega); subst e0; simp) (by have := HK.out; omega) (by have := rb.size; simp; omega) ?_; intro v' w' O3 g3)
                  have O4 := Lib.hid (O3.congr (g := decF z) (fun i hi => by
                    by_cases e : i < 4 * b + 0
                    · rw [if_pos e]
                    · rw [if_neg e, show i = 4 * b + 0 by omega, HX1.out]))
                  have R4 := Lib.hid ((rR.alloc _).grown g3 (rR.apart rI))
                  have hsz := rb.size
                  have nb := Lib.hid ((rb.alloc hsz _).grown g3 (by simp; omega) (fun q hq => (rI.lt q hq).1))
                  clear O3 g3 rI rb rR hsz cX
                  go_wp2
                  go_roundw
                  case rel => exact ⟨1, by omega, by go_num, O4.out, R4.out, nb.out⟩
                  case measure => simp [intOf]
                · have cX := hyr 4 (by omega)
                  have HX1 : Hid (decF z (4 * b + 1) = y 4) := Lib.hid (HY.out 1 (by omega))
                  obtain ⟨X, hX⟩ : ∃ X, y 4 = X := ⟨_, rfl⟩
                  rw [hX] at cX HX1
                  clear hyr hX hj hj4
                  have hix : ∀ W : World, (Instr.index 56 (.agg #[.int .i64 3, .int .i64 5, .int .i64 6, .int .i64 7]) (.int .i64 1)).run Tryd.prog W = .ok (.int .i64 5) W := fun W => places_at W 1 5 (by omega)
                  go_wp2_with (at_builtin; refine wpList_append_bytes rfl (.tmp 53) (.tmp 59) rfl w.heap.size _ (4 * b + 1) (decF z) rfl (rI.alloc _) wr.heap.size 0 1 1 (fun _ => X) rfl (fun i hi => by have e0 : i = 0 := (by omega); subst e0; simp) (by have := HK.out; omega) (by have := rb.size; simp; omega) ?_; intro v' w' O3 g3)
                  have O4 := Lib.hid (O3.congr (g := decF z) (fun i hi => by
                    by_cases e : i < 4 * b + 1
                    · rw [if_pos e]
                    · rw [if_neg e, show i = 4 * b + 1 by omega, HX1.out]))
                  have R4 := Lib.hid ((rR.alloc _).grown g3 (rR.apart rI))
                  have hsz := rb.size
                  have nb := Lib.hid ((rb.alloc hsz _).grown g3 (by simp; omega) (fun q hq => (rI.lt q hq).1))
                  clear O3 g3 rI rb rR hsz cX
                  go_wp2
                  go_roundw
                  case rel => exact ⟨2, by omega, by go_num, O4.out, R4.out, nb.out⟩
                  case measure => simp [intOf]
                · have cX := hyr 5 (by omega)
                  have HX1 : Hid (decF z (4 * b + 2) = y 5) := Lib.hid (HY.out 2 (by omega))
                  obtain ⟨X, hX⟩ : ∃ X, y 5 = X := ⟨_, rfl⟩
                  rw [hX] at cX HX1
                  clear hyr hX hj hj4
                  have hix : ∀ W : World, (Instr.index 56 (.agg #[.int .i64 3, .int .i64 5, .int .i64 6, .int .i64 7]) (.int .i64 2)).run Tryd.prog W = .ok (.int .i64 6) W := fun W => places_at W 2 6 (by omega)
                  go_wp2_with (at_builtin; refine wpList_append_bytes rfl (.tmp 53) (.tmp 59) rfl w.heap.size _ (4 * b + 2) (decF z) rfl (rI.alloc _) wr.heap.size 0 1 1 (fun _ => X) rfl (fun i hi => by have e0 : i = 0 := (by omega); subst e0; simp) (by have := HK.out; omega) (by have := rb.size; simp; omega) ?_; intro v' w' O3 g3)
                  have O4 := Lib.hid (O3.congr (g := decF z) (fun i hi => by
                    by_cases e : i < 4 * b + 2
                    · rw [if_pos e]
                    · rw [if_neg e, show i = 4 * b + 2 by omega, HX1.out]))
                  have R4 := Lib.hid ((rR.alloc _).grown g3 (rR.apart rI))
                  have hsz := rb.size
                  have nb := Lib.hid ((rb.alloc hsz _).grown g3 (by simp; omega) (fun q hq => (rI.lt q hq).1))
                  clear O3 g3 rI rb rR hsz cX
                  go_wp2
                  go_roundw
                  case rel => exact ⟨3, by omega, by go_num, O4.out, R4.out, nb.out⟩
                  case measure => simp [intOf]
                · have cX := hyr 6 (by omega)
                  have HX1 : Hid (decF z (4 * b + 3) = y 6) := Lib.hid (HY.out 3 (by omega))
                  obtain ⟨X, hX⟩ : ∃ X, y 6 = X := ⟨_, rfl⟩
                  rw [hX] at cX HX1
                  clear hyr hX hj hj4
                  have hix : ∀ W : World, (Instr.index 56 (.agg #[.int .i64 3, .int .i64 5, .int .i64 6, .int .i64 7]) (.int .i64 3)).run Tryd.prog W = .ok (.int .i64 7) W := fun W => places_at W 3 7 (by omega)
                  go_wp2_with (at_builtin; refine wpList_append_bytes rfl (.tmp 53) (.tmp 59) rfl w.heap.size _ (4 * b + 3) (decF z) rfl (rI.alloc _) wr.heap.size 0 1 1 (fun _ => X) rfl (fun i hi => by have e0 : i = 0 := (by omega); subst e0; simp) (by have := HK.out; omega) (by have := rb.size; simp; omega) ?_; intro v' w' O3 g3)
                  have O4 := Lib.hid (O3.congr (g := decF z) (fun i hi => by
                    by_cases e : i < 4 * b + 3
                    · rw [if_pos e]
                    · rw [if_neg e, show i = 4 * b + 3 by omega, HX1.out]))
                  have R4 := Lib.hid ((rR.alloc _).grown g3 (rR.apart rI))
                  have hsz := rb.size
                  have nb := Lib.hid ((rb.alloc hsz _).grown g3 (by simp; omega) (fun q hq => (rI.lt q hq).1))
                  clear O3 g3 rI rb rR hsz cX
                  go_wp2
                  go_roundw
                  case rel => exact ⟨4, by omega, by go_num, O4.out, R4.out, nb.out⟩
                  case measure => simp [intOf]
              · obtain rfl : j = 4 := by omega
                clear hyr hj hj4
                go_wp2
                go_roundw
                case rel => exact ⟨b + 1, HK.out, by rw [HPE.out], by rw [show 4 * (b + 1) = 4 * b + 4 by omega]; exact rI, by rw [HC1.out]; rfl, rb⟩
                case measure => have := HEN.out; simp [intOf]; omega
          · obtain ⟨k, hk1⟩ : ∃ k, K = k + 1 := ⟨K - 1, by omega⟩
            have hk7 : k < 7 := by omega
            have hbit := okB_zb B hok k (by omega)
            obtain ⟨V, hV⟩ : ∃ V, 97 - zb B k = V := ⟨_, rfl⟩
            have hBS := fun w => bitSum_any (zb B k) 49 w hbit (.inr rfl)
            rw [show addB (zb B k) 49 = V by unfold addB; rcases hbit with h | h <;> rw [h] at hV ⊢ <;> simp <;> omega] at hBS
            have cX := hR.2.1 k hk7
            have fX := hfr k hk7
            have hR2 := hR.set (V := V) hk7
            have hB2 := bytes_below hB1 (Nat.le_of_eq hg) k (.int .u8 (V : Nat))
            have rO2 := rO.below hB2
            have bb2 := below_then b0 (Nat.le_refl _) hB2
            obtain ⟨q0, q1, q2, q3⟩ := hp1
            have g0 : g ≠ 0 := by have := b0.size; omega
            have hp2 : PlacesAt (W1.setCell ⟨g, k, none⟩ (.int .u8 (V : Nat))) := by
              refine ⟨?_, ?_, ?_, ?_⟩ <;> rw [World.cell?_setCell_other _ _ _ _ (by intro h; injection h with h _ _; exact g0 h)] <;> assumption
            obtain ⟨r0, r1, r2, r3⟩ := hp2
            have hy : ∀ j, j < 4 → decF z (4 * b + j) = (fun i => if i = k then V else zb B i) (plF4 j) := fun j hj => by
              have hpj : plF4 j < 7 := by unfold plF4; split <;> (try omega); split <;> (try omega); split <;> omega
              rw [hdec j hj, hcor, ← hyz _ hpj]
              by_cases e : plF4 j = k
              · rw [if_pos (by omega)]; simp only [e, if_true]; exact hV
              · rw [if_neg (by omega)]; simp only [e, if_false]
            obtain ⟨y, hyy⟩ : ∃ y : Nat → Nat, (fun i => if i = k then V else zb B i) = y := ⟨_, rfl⟩
            rw [hyy] at hR2 hy
            rw [if_neg hK0] at hc1
            have HC1 := Lib.hid hc1
            have t1 : (((K : Nat) : Int) != 0) = true := by simp; omega
            have t2 : ((K : Nat) : Int) ≤ 7 := by omega
            have t3 : (0 : Int) < ((K : Nat) : Int) := by omega
            have v1 : ((K : Nat) : Int) - 1 = (k : Int) := by omega
            have v2 : IntKind.i64.wrap (((K : Nat) : Int) - 1) = (k : Int) := by rw [v1]; exact IntWalk.i64_in _ (by omega)
            obtain ⟨T, hT⟩ : ∃ T, ((K : Nat) : Int) = T := ⟨_, rfl⟩
            rw [hT] at HL t1 t2 t3 v1 v2
            have k0 : (0 : Int) ≤ (k : Int) := by omega
            have k7 : (k : Int) < 7 := by omega
            obtain ⟨X, hX⟩ : ∃ X, zb B k = X := ⟨_, rfl⟩
            rw [hX] at hBS cX
            have HBS := Lib.hid hBS
            have HY := Lib.hid hy
            have HR := Lib.hid hR2
            have HO1 := Lib.hid rO2
            have HBB := Lib.hid bb2
            clear hyz hcor hy hc1 hcl hK hsy hKl hL hok hlt hK0 hsB hC hE hP b0 hT hle hk hR rO1 bb1 hyy hs7 hdec hpl rO hB1 hfr hBS hX hV hbit hR2 rO2 bb2 hB2 hk1 g0
            go_wp2_with fail
            refine HL.out.mono ?_
            rintro e w1 ⟨rfl, rfl⟩
            go_wp2_with fail
            refine (HBS.out _).mono ?_
            rintro e w1 ⟨rfl, rfl⟩
            go_wp2
            go_loopw [5, 50] (fun v i wx => ∃ j : Nat, j ≤ 4 ∧ i = .int .i64 j ∧ BO wx w.heap.size v (4 * b + j) (decF z) ∧ RowG wx g y ∧ Below w.heap.size w wx) (fun _ i _ => 4 - (intOf i).toNat)
            case atStart => exact ⟨0, by omega, rfl, by rw [Nat.add_zero]; exact HO1.out, HR.out, HBB.out⟩
            case round =>
              obtain ⟨j, hj, rfl, rI, rR, rb⟩ := hrel
              have hyr := rR.2.1
              by_cases hj4 : j < 4
              · rcases (by omega : j = 0 ∨ j = 1 ∨ j = 2 ∨ j = 3) with rfl | rfl | rfl | rfl
                · have cX := hyr 2 (by omega)
                  have HX1 : Hid (decF z (4 * b + 0) = y 2) := Lib.hid (HY.out 0 (by omega))
                  obtain ⟨X, hX⟩ : ∃ X, y 2 = X := ⟨_, rfl⟩
                  rw [hX] at cX HX1
                  clear hyr hX hj hj4
                  have hix : ∀ W : World, (Instr.index 56 (.agg #[.int .i64 3, .int .i64 5, .int .i64 6, .int .i64 7]) (.int .i64 0)).run Tryd.prog W = .ok (.int .i64 3) W := fun W => places_at W 0 3 (by omega)
                  go_wp2_with (at_builtin; refine wpList_append_bytes rfl (.tmp 53) (.tmp 59) rfl w.heap.size _ (4 * b + 0) (decF z) rfl (rI.alloc _) wr.heap.size 0 1 1 (fun _ => X) rfl (fun i hi => by have e0 : i = 0 := (by omega); subst e0; simp) (by have := HK.out; omega) (by have := rb.size; simp; omega) ?_; intro v' w' O3 g3)
                  have O4 := Lib.hid (O3.congr (g := decF z) (fun i hi => by
                    by_cases e : i < 4 * b + 0
                    · rw [if_pos e]
                    · rw [if_neg e, show i = 4 * b + 0 by omega, HX1.out]))
                  have R4 := Lib.hid ((rR.alloc _).grown g3 (rR.apart rI))
                  have hsz := rb.size
                  have nb := Lib.hid ((rb.alloc hsz _).grown g3 (by simp; omega) (fun q hq => (rI.lt q hq).1))
                  clear O3 g3 rI rb rR hsz cX
                  go_wp2
                  go_roundw
                  case rel => exact ⟨1, by omega, by go_num, O4.out, R4.out, nb.out⟩
                  case measure => simp [intOf]
                · have cX := hyr 4 (by omega)
                  have HX1 : Hid (decF z (4 * b + 1) = y 4) := Lib.hid (HY.out 1 (by omega))
                  obtain ⟨X, hX⟩ : ∃ X, y 4 = X := ⟨_, rfl⟩
                  rw [hX] at cX HX1
                  clear hyr hX hj hj4
                  have hix : ∀ W : World, (Instr.index 56 (.agg #[.int .i64 3, .int .i64 5, .int .i64 6, .int .i64 7]) (.int .i64 1)).run Tryd.prog W = .ok (.int .i64 5) W := fun W => places_at W 1 5 (by omega)
                  go_wp2_with (at_builtin; refine wpList_append_bytes rfl (.tmp 53) (.tmp 59) rfl w.heap.size _ (4 * b + 1) (decF z) rfl (rI.alloc _) wr.heap.size 0 1 1 (fun _ => X) rfl (fun i hi => by have e0 : i = 0 := (by omega); subst e0; simp) (by have := HK.out; omega) (by have := rb.size; simp; omega) ?_; intro v' w' O3 g3)
                  have O4 := Lib.hid (O3.congr (g := decF z) (fun i hi => by
                    by_cases e : i < 4 * b + 1
                    · rw [if_pos e]
                    · rw [if_neg e, show i = 4 * b + 1 by omega, HX1.out]))
                  have R4 := Lib.hid ((rR.alloc _).grown g3 (rR.apart rI))
                  have hsz := rb.size
                  have nb := Lib.hid ((rb.alloc hsz _).grown g3 (by simp; omega) (fun q hq => (rI.lt q hq).1))
                  clear O3 g3 rI rb rR hsz cX
                  go_wp2
                  go_roundw
                  case rel => exact ⟨2, by omega, by go_num, O4.out, R4.out, nb.out⟩
                  case measure => simp [intOf]
                · have cX := hyr 5 (by omega)
                  have HX1 : Hid (decF z (4 * b + 2) = y 5) := Lib.hid (HY.out 2 (by omega))
                  obtain ⟨X, hX⟩ : ∃ X, y 5 = X := ⟨_, rfl⟩
                  rw [hX] at cX HX1
                  clear hyr hX hj hj4
                  have hix : ∀ W : World, (Instr.index 56 (.agg #[.int .i64 3, .int .i64 5, .int .i64 6, .int .i64 7]) (.int .i64 2)).run Tryd.prog W = .ok (.int .i64 6) W := fun W => places_at W 2 6 (by omega)
                  go_wp2_with (at_builtin; refine wpList_append_bytes rfl (.tmp 53) (.tmp 59) rfl w.heap.size _ (4 * b + 2) (decF z) rfl (rI.alloc _) wr.heap.size 0 1 1 (fun _ => X) rfl (fun i hi => by have e0 : i = 0 := (by omega); subst e0; simp) (by have := HK.out; omega) (by have := rb.size; simp; omega) ?_; intro v' w' O3 g3)
                  have O4 := Lib.hid (O3.congr (g := decF z) (fun i hi => by
                    by_cases e : i < 4 * b + 2
                    · rw [if_pos e]
                    · rw [if_neg e, show i = 4 * b + 2 by omega, HX1.out]))
                  have R4 := Lib.hid ((rR.alloc _).grown g3 (rR.apart rI))
                  have hsz := rb.size
                  have nb := Lib.hid ((rb.alloc hsz _).grown g3 (by simp; omega) (fun q hq => (rI.lt q hq).1))
                  clear O3 g3 rI rb rR hsz cX
                  go_wp2
                  go_roundw
                  case rel => exact ⟨3, by omega, by go_num, O4.out, R4.out, nb.out⟩
                  case measure => simp [intOf]
                · have cX := hyr 6 (by omega)
                  have HX1 : Hid (decF z (4 * b + 3) = y 6) := Lib.hid (HY.out 3 (by omega))
                  obtain ⟨X, hX⟩ : ∃ X, y 6 = X := ⟨_, rfl⟩
                  rw [hX] at cX HX1
                  clear hyr hX hj hj4
                  have hix : ∀ W : World, (Instr.index 56 (.agg #[.int .i64 3, .int .i64 5, .int .i64 6, .int .i64 7]) (.int .i64 3)).run Tryd.prog W = .ok (.int .i64 7) W := fun W => places_at W 3 7 (by omega)
                  go_wp2_with (at_builtin; refine wpList_append_bytes rfl (.tmp 53) (.tmp 59) rfl w.heap.size _ (4 * b + 3) (decF z) rfl (rI.alloc _) wr.heap.size 0 1 1 (fun _ => X) rfl (fun i hi => by have e0 : i = 0 := (by omega); subst e0; simp) (by have := HK.out; omega) (by have := rb.size; simp; omega) ?_; intro v' w' O3 g3)
                  have O4 := Lib.hid (O3.congr (g := decF z) (fun i hi => by
                    by_cases e : i < 4 * b + 3
                    · rw [if_pos e]
                    · rw [if_neg e, show i = 4 * b + 3 by omega, HX1.out]))
                  have R4 := Lib.hid ((rR.alloc _).grown g3 (rR.apart rI))
                  have hsz := rb.size
                  have nb := Lib.hid ((rb.alloc hsz _).grown g3 (by simp; omega) (fun q hq => (rI.lt q hq).1))
                  clear O3 g3 rI rb rR hsz cX
                  go_wp2
                  go_roundw
                  case rel => exact ⟨4, by omega, by go_num, O4.out, R4.out, nb.out⟩
                  case measure => simp [intOf]
              · obtain rfl : j = 4 := by omega
                clear hyr hj hj4
                go_wp2
                go_roundw
                case rel => exact ⟨b + 1, HK.out, by rw [HPE.out], by rw [show 4 * (b + 1) = 4 * b + 4 by omega]; exact rI, by rw [HC1.out]; go_num, rb⟩
                case measure => have := HEN.out; simp [intOf]; omega
        · obtain rfl : b = n := by omega
          have j1 : ¬ ((7 * b : Nat) : Int) < (z.size : Int) := by omega
          obtain ⟨P, hP⟩ : ∃ P, 7 * b = P := ⟨_, rfl⟩
          rw [hP] at j1 ⊢
          have hcv := BO.str rO
          clear hP hzn hlt hk rO hpl
          go_wp2
          refine bodyPost_ret (v := .tuple #[.string (strF (4 * b) (decF z)), .int .i64 (cntF z b : Nat), .bool true]) (by simp [results, Tryd.results14, go_sem]) rfl ?_
          exact ⟨ret_H HX.out, b0⟩
    · have HX := Lib.hid (hd_no (z := z) (fun h => h7 h.2))
      obtain ⟨M, hM⟩ : ∃ M, z.size % 7 = M := ⟨_, rfl⟩
      have t1 : (z.size : Int) % 7 = (M : Int) := by omega
      have t2 : ((M : Int) != 0) = true := by simp; omega
      clear hb h7 hM hp
      go_enter Tryd.func14, Tryd.ntmps14
      go_wp2_with fail
      refine (HV.out _).mono ?_
      rintro e w1 ⟨rfl, rfl⟩
      go_wp2
      refine bodyPost_ret (v := .tuple #[.string ⟨#[]⟩, .int .i64 0, .bool false]) (by simp [results, Tryd.results14, go_sem]) rfl ?_
      exact ⟨ret_H HX.out, Below.refl _ _⟩
end Go.Proofs.YtabokoodpobnnaaDoor
namespace Go.Proofs.YtabokoodpobnnaaDoor
open Go.RowKit
set_option linter.unusedVariables false
set_option maxRecDepth 100000
def opZ (z : ByteArray) (n S T X : Int) : Nat → ByteArray
  | 0 => z
  | 1 => (scrAns z S T X).1
  | 2 => (deintAns (scrAns z S T X).1 n).1
  | 3 => (hdAns (deintAns (scrAns z S T X).1 n).1).1
  | _ => (parAns (hdAns (deintAns (scrAns z S T X).1 n).1).1 0).1
def opK (z : ByteArray) (n S T X : Int) : Nat → Bool
  | 0 => (scrAns z S T X).2
  | 1 => (deintAns (scrAns z S T X).1 n).2
  | 2 => (hdAns (deintAns (scrAns z S T X).1 n).1).2.2
  | _ => (parAns (hdAns (deintAns (scrAns z S T X).1 n).1).1 0).2.2
def opAns (z : ByteArray) (n S T X : Int) : ByteArray × Bool := ordAns (opZ z n S T X) (opK z n S T X) 4
theorem noS_size : noS.1.size = 0 := rfl
theorem scr_size (z : ByteArray) (S T X : Int) : (scrAns z S T X).1.size ≤ 600 := by
  unfold scrAns
  split
  · rename_i h
    have := (bits_of2 h.1).2
    show (addS z _).size ≤ 600
    rw [addS_size]; exact this
  · rw [noS_size]; omega
theorem deint_size (z : ByteArray) (n : Int) : (deintAns z n).1.size ≤ z.size := by
  unfold deintAns
  split
  · show (weaveS z _ _).size ≤ z.size
    rw [show (weaveS z (z.size / n.toNat) n.toNat).size = z.size from strF_size _ _]
    exact Nat.le_refl _
  · rw [noS_size]; omega
theorem hd_size (z : ByteArray) : (hdAns z).1.size ≤ z.size := by
  unfold hdAns
  split
  · show (strF _ _).size ≤ z.size
    rw [strF_size]; omega
  · exact Nat.zero_le _
theorem cells4 (X : World) (a b c d : Value) (t : TypeId) : (X.alloc (.cells #[a, b, c, d] t)).cell? ⟨X.heap.size, 0, none⟩ = some a ∧ (X.alloc (.cells #[a, b, c, d] t)).cell? ⟨X.heap.size, 1, none⟩ = some b ∧ (X.alloc (.cells #[a, b, c, d] t)).cell? ⟨X.heap.size, 2, none⟩ = some c ∧ (X.alloc (.cells #[a, b, c, d] t)).cell? ⟨X.heap.size, 3, none⟩ = some d := by
  refine ⟨?_, ?_, ?_, ?_⟩ <;> simp
theorem op1_any (z : ByteArray) (S T X : Int) (b : Nat) (w : World) (hs : z.size ≤ 1048576) (hr : RegAt w b S T X) :
    Calls Tryd.prog 40 #[.string z, .pointer (some ⟨b, 0, none⟩)] w fun e w' => e = .returned (.tuple #[.string (scrAns z S T X).1, .bool (scrAns z S T X).2]) ∧ Below w.heap.size w w' := by
  have HS := Lib.hid (fun w => iScr_any z S T X w hs)
  obtain ⟨A, hA⟩ : ∃ A, scrAns z S T X = A := ⟨_, rfl⟩
  rw [hA] at HS ⊢
  obtain ⟨A1, A2⟩ := A
  obtain ⟨c0, c1, c2, -⟩ := hr
  clear hA hs
  go_enter Tryd.func40, Tryd.ntmps40
  go_wp2_with fail
  refine (HS.out _).mono ?_
  rintro e w1 ⟨rfl, hb1⟩
  go_wp2
  go_ret2
  exact ⟨rfl, hb1⟩
theorem op2_any (z : ByteArray) (n : Int) (b : Nat) (w : World) (hs : z.size ≤ 1048576) (hc : w.cell? ⟨b, 0, none⟩ = some (.int .i64 n)) :
    Calls Tryd.prog 41 #[.string z, .pointer (some ⟨b, 0, none⟩)] w fun e w' => e = .returned (.tuple #[.string (deintAns z n).1, .bool (deintAns z n).2]) ∧ Below w.heap.size w w' := by
  have HS := Lib.hid (fun w => iDeint_any z n w hs)
  obtain ⟨A, hA⟩ : ∃ A, deintAns z n = A := ⟨_, rfl⟩
  rw [hA] at HS ⊢
  obtain ⟨A1, A2⟩ := A
  clear hA hs
  go_enter Tryd.func41, Tryd.ntmps41
  go_wp2_with fail
  refine (HS.out _).mono ?_
  rintro e w1 ⟨rfl, hb1⟩
  go_wp2
  go_ret2
  exact ⟨rfl, hb1⟩
theorem op3_any (z : ByteArray) (w : World) (hs : z.size ≤ 1048576) (hp : PlacesAt w) (h0 : 0 < w.heap.size) :
    Calls Tryd.prog 43 #[.string z] w fun e w' => e = .returned (.tuple #[.string (hdAns z).1, .bool (hdAns z).2.2]) ∧ Below w.heap.size w w' := by
  have HS := Lib.hid (iHd_any z w hs hp h0)
  obtain ⟨A, hA⟩ : ∃ A, hdAns z = A := ⟨_, rfl⟩
  rw [hA] at HS ⊢
  obtain ⟨A1, A2, A3⟩ := A
  clear hA hs hp h0
  go_enter Tryd.func43, Tryd.ntmps43
  go_wp2_with fail
  refine HS.out.mono ?_
  rintro e w1 ⟨rfl, hb1⟩
  go_wp2
  go_ret2
  exact ⟨rfl, hb1⟩
theorem op4_any (z : ByteArray) (w : World) (hs : z.size ≤ 1048576) :
    Calls Tryd.prog 44 #[.string z] w fun e w' => e = .returned (.tuple #[.string (parAns z 0).1, .bool (parAns z 0).2.2]) ∧ Below w.heap.size w w' := by
  have HS := Lib.hid (iParse_any z 0 w hs)
  obtain ⟨A, hA⟩ : ∃ A, parAns z 0 = A := ⟨_, rfl⟩
  rw [hA] at HS ⊢
  obtain ⟨A1, A2, A3⟩ := A
  clear hA hs
  go_enter Tryd.func44, Tryd.ntmps44
  go_wp2_with fail
  refine HS.out.mono ?_
  rintro e w1 ⟨rfl, hb1⟩
  go_wp2
  go_ret2
  exact ⟨rfl, hb1⟩
def opV (gi gr : Nat) : Nat → Value
  | 0 => .func (.func 40) #[] #[.pointer (some ⟨gr, 0, none⟩)]
  | 1 => .func (.func 41) #[] #[.pointer (some ⟨gi, 0, none⟩)]
  | 2 => .func (.func 43) #[] #[]
  | _ => .func (.func 44) #[] #[]
set_option maxHeartbeats 1600000 in
theorem iOpn_any (z : ByteArray) (n S T X : Int) (w : World) (hs : z.size ≤ 1048576) (hp : PlacesAt w) (h0 : 0 < w.heap.size) :
    Calls Tryd.prog 12 #[.string z, .int .i64 n, .agg #[.int .i64 S, .int .i64 T, .int .i64 X]] w fun e w' => e = .returned (.tuple #[.string (opAns z n S T X).1, .bool (opAns z n S T X).2]) ∧ Below w.heap.size w w' := by
  have hcall : ∀ gi gr g2, gi = w.heap.size → gr = w.heap.size + 1 → g2 = w.heap.size + 2 → ∀ W, W = ((w.alloc (.cells #[.int .i64 n] 3)).alloc (.cells #[.int .i64 S, .int .i64 T, .int .i64 X] 26)).alloc (.cells #[opV gi gr 0, opV gi gr 1, opV gi gr 2, opV gi gr 3] 33) →
      Calls Tryd.prog 29 #[.string z, .slice (some ⟨g2, 0, none⟩) 4 4] W fun e w' => e = .returned (.tuple #[.string (opAns z n S T X).1, .bool (opAns z n S T X).2]) ∧ Below w.heap.size w w' := by
    rintro gi gr g2 rfl rfl rfl W hW
    have s1 : (w.alloc (.cells #[.int .i64 n] 3)).heap.size = w.heap.size + 1 := World.size_alloc _ _
    have s2 : ((w.alloc (.cells #[.int .i64 n] 3)).alloc (.cells #[.int .i64 S, .int .i64 T, .int .i64 X] 26)).heap.size = w.heap.size + 2 := by rw [World.size_alloc, s1]
    have bb : Below w.heap.size w W := by rw [hW]; exact (((Below.refl _ _).alloc (Nat.le_refl _) _).alloc (by rw [s1]; omega) _).alloc (by rw [s2]; omega) _
    have sW : W.heap.size = w.heap.size + 3 := by rw [hW, World.size_alloc, s2]
    have ci : W.cell? ⟨w.heap.size, 0, none⟩ = some (.int .i64 n) := by
      rw [hW]; exact box_old (box_old (box_new w _ _) (by rw [s1]; omega) _) (by rw [s2]; omega) _
    have cr : RegAt W (w.heap.size + 1) S T X := by
      have h := RegAt.new (w.alloc (.cells #[.int .i64 n] 3)) 26 S T X
      rw [s1] at h
      rw [hW]
      exact h.below ((Below.refl _ _).alloc (Nat.le_refl _) _) (by rw [s2]; omega)
    have cells : ∀ i, i < 4 → W.cell? ⟨w.heap.size + 2, i, none⟩ = some (opV w.heap.size (w.heap.size + 1) i) := by
      intro i hi
      have hi' : i = 0 ∨ i = 1 ∨ i = 2 ∨ i = 3 := by omega
      rw [hW, ← s2]
      obtain ⟨q0, q1, q2, q3⟩ := cells4 ((w.alloc (.cells #[.int .i64 n] 3)).alloc (.cells #[.int .i64 S, .int .i64 T, .int .i64 X] 26)) (opV w.heap.size (w.heap.size + 1) 0) (opV w.heap.size (w.heap.size + 1) 1) (opV w.heap.size (w.heap.size + 1) 2) (opV w.heap.size (w.heap.size + 1) 3) 33
      rcases hi' with rfl | rfl | rfl | rfl
      · exact q0
      · exact q1
      · exact q2
      · exact q3
    have z1 := scr_size z S T X
    have z2 := deint_size (scrAns z S T X).1 n
    have z3 := hd_size (deintAns (scrAns z S T X).1 n).1
    have key := inOrder_any 4 (w.heap.size + 2) 4 (opV w.heap.size (w.heap.size + 1)) (opZ z n S T X) (opK z n S T X) W (by omega) (by omega) cells (by
      intro i hi
      have hi' : i = 0 ∨ i = 1 ∨ i = 2 ∨ i = 3 := by omega
      rcases hi' with rfl | rfl | rfl | rfl
      · exact ⟨_, _, rfl, enters_of Tryd.func40 (by kernel_rfl) rfl, fun V hV => op1_any z S T X _ V hs (cr.below hV (by omega))⟩
      · exact ⟨_, _, rfl, enters_of Tryd.func41 (by kernel_rfl) rfl, fun V hV => op2_any _ n _ V (by show (scrAns z S T X).1.size ≤ _; omega) (box_kept ci (by omega) hV)⟩
      · exact ⟨_, _, rfl, enters_of Tryd.func43 (by kernel_rfl) rfl, fun V hV => op3_any _ V (by show (deintAns (scrAns z S T X).1 n).1.size ≤ _; omega) (PlacesAt.below (PlacesAt.below hp h0 bb) (by omega) hV) (by have := hV.size; omega)⟩
      · exact ⟨_, _, rfl, enters_of Tryd.func44 (by kernel_rfl) rfl, fun V hV => op4_any _ V (by show (hdAns (deintAns (scrAns z S T X).1 n).1).1.size ≤ _; omega)⟩)
    exact key.mono fun e w' ⟨he, hb⟩ => ⟨he, below_then bb (by omega) hb⟩
  obtain ⟨A, hA⟩ : ∃ A, opAns z n S T X = A := ⟨_, rfl⟩
  rw [hA] at hcall ⊢
  obtain ⟨A1, A2⟩ := A
  have HC := Lib.hid hcall
  clear hA hs hp h0 hcall
  go_enter Tryd.func12, Tryd.ntmps12
  go_wp2_with fail
  refine (HC.out _ _ _ rfl (by first | rfl | simp) (by first | rfl | simp) _ rfl).mono ?_
  rintro e w1 ⟨rfl, hb1⟩
  go_wp2
  go_ret2
  exact ⟨rfl, hb1⟩
theorem ord4_no {z : Nat → ByteArray} {ok : Nat → Bool} (h : (ok 0 && ok 1 && ok 2) = false) : ordAns z ok 4 = noS := by
  have : allB ok 4 = false := by simp only [allB, Bool.true_and]; rw [h, Bool.false_and]
  unfold ordAns; rw [this]; exact if_neg (by simp)
theorem ord4_yes {z : Nat → ByteArray} {ok : Nat → Bool} (h : (ok 0 && ok 1 && ok 2) = true) : ordAns z ok 4 = if ok 3 then (z 4, true) else noS := by
  have : allB ok 4 = ok 3 := by simp only [allB, Bool.true_and]; rw [h, Bool.true_and]
  unfold ordAns; rw [this]
theorem op_first {z : ByteArray} {n S T X : Int} (h : ((scrAns z S T X).2 && (deintAns (scrAns z S T X).1 n).2 && (hdAns (deintAns (scrAns z S T X).1 n).1).2.2) = false) : opAns z n S T X = noS :=
  ord4_no (z := opZ z n S T X) (ok := opK z n S T X) h
theorem op_then {z : ByteArray} {n S T X : Int} (h : ((scrAns z S T X).2 && (deintAns (scrAns z S T X).1 n).2 && (hdAns (deintAns (scrAns z S T X).1 n).1).2.2) = true) : opAns z n S T X = if (parAns (hdAns (deintAns (scrAns z S T X).1 n).1).1 0).2.2 then ((parAns (hdAns (deintAns (scrAns z S T X).1 n).1).1 0).1, true) else noS :=
  ord4_yes (z := opZ z n S T X) (ok := opK z n S T X) h
set_option maxHeartbeats 1600000 in
theorem sOpn_any (z : ByteArray) (n S T X : Int) (w : World) (hs : z.size ≤ 1048576) :
    Calls Tryd.prog 11 #[.string z, .int .i64 n, .agg #[.int .i64 S, .int .i64 T, .int .i64 X]] w fun e w' => e = .returned (.tuple #[.string (opAns z n S T X).1, .bool (opAns z n S T X).2]) ∧ Below w.heap.size w w' := by
  have b0 : Below w.heap.size w (w.alloc (.cells #[.int .i64 S, .int .i64 T, .int .i64 X] 26)) := (Below.refl _ _).alloc (Nat.le_refl _) _
  have r0 := RegAt.new w 26 S T X
  have z1 := scr_size z S T X
  have z2 := deint_size (scrAns z S T X).1 n
  have z3 := hd_size (deintAns (scrAns z S T X).1 n).1
  have H1 := Lib.hid (fun w => sScr_any z S T X w hs)
  have H2 := Lib.hid (fun w => sDeint_any (scrAns z S T X).1 n w (by omega))
  have H3 := Lib.hid (fun w => sHd_any (deintAns (scrAns z S T X).1 n).1 w (by omega))
  have H4 := Lib.hid (fun w => sParse_any (hdAns (deintAns (scrAns z S T X).1 n).1).1 0 w (by omega))
  have HN := Lib.hid (op_first (z := z) (n := n) (S := S) (T := T) (X := X))
  have HY := Lib.hid (op_then (z := z) (n := n) (S := S) (T := T) (X := X))
  obtain ⟨R, hR⟩ : ∃ R, opAns z n S T X = R := ⟨_, rfl⟩
  rw [hR] at HN HY ⊢
  obtain ⟨A, hA⟩ : ∃ A, scrAns z S T X = A := ⟨_, rfl⟩
  rw [hA] at H1 H2 H3 H4 HN HY
  obtain ⟨A1, A2⟩ := A
  obtain ⟨D, hD⟩ : ∃ A, deintAns A1 n = A := ⟨_, rfl⟩
  simp only [hD] at H2 H3 H4 HN HY
  obtain ⟨D1, D2⟩ := D
  obtain ⟨H, hH⟩ : ∃ A, hdAns D1 = A := ⟨_, rfl⟩
  simp only [hH] at H3 H4 HN HY
  obtain ⟨K1, K2, K3⟩ := H
  obtain ⟨P, hP⟩ : ∃ A, parAns K1 0 = A := ⟨_, rfl⟩
  simp only [hP] at H4 HY
  obtain ⟨P1, P2, P3⟩ := P
  obtain ⟨c0, c1, c2, -⟩ := r0
  have B0 := Lib.hid b0
  clear z1 z2 z3 hR hA hD hH hP b0
  go_enter Tryd.func11, Tryd.ntmps11
  go_wp2_with fail
  refine (H1.out _).mono ?_
  rintro e w1 ⟨rfl, hb1⟩
  have b1 := below_then B0.out (by simp) hb1
  clear hb1 c0 c1 c2 H1 B0
  go_wp2_with fail
  refine (H2.out _).mono ?_
  rintro e w2 ⟨rfl, hb2⟩
  have b2 := below_then b1 (Nat.le_refl _) hb2
  clear hb2 b1 H2
  go_wp2_with fail
  refine (H3.out _).mono ?_
  rintro e w3 ⟨rfl, hb3⟩
  have b3 := below_then b2 (Nat.le_refl _) hb3
  clear hb3 b2 H3
  cases hall : (A2 && D2 && K3) with
  | false =>
    have HX := Lib.hid (HN.out hall)
    clear HN HY H4
    cases A2 <;> cases D2 <;> cases K3 <;> first | (exact absurd hall (by decide)) | skip
    all_goals
      clear hall
      go_wp2
      go_ret2
      exact ⟨ret_sA HX.out, b3⟩
  | true =>
    have HX := Lib.hid (HY.out hall)
    obtain ⟨rfl, rfl, rfl⟩ : A2 = true ∧ D2 = true ∧ K3 = true := by cases A2 <;> cases D2 <;> cases K3 <;> simp_all
    clear HN HY hall
    go_wp2_with fail
    refine (H4.out _).mono ?_
    rintro e w4 ⟨rfl, hb4⟩
    have b4 := below_then b3 (Nat.le_refl _) hb4
    clear hb4 b3 H4
    cases P3
    all_goals
      go_wp2
      go_ret2
      exact ⟨ret_sA HX.out, b4⟩
end Go.Proofs.YtabokoodpobnnaaDoor
