/- HammingDecode of the program. -/
import Derived.Test.YtabokoodpobnnaaDoorFrm13
import Derived.BigQuiet
namespace Go.Proofs.YtabokoodpobnnaaDoor
open Go.RowKit Go.Shelf
set_option linter.unusedVariables false
set_option maxRecDepth 100000
set_option maxHeartbeats 1600000 in
theorem iHd_any (z : ByteArray) (w : World) (hs : z.size ≤ 1048576) (hp : PlacesAt w) (h0 : 0 < w.heap.size) :
    Calls Tryd.prog 14 #[.string z] w fun e w' => e = .returned (.tuple #[.string (hdAns z).1, .int .i64 (hdAns z).2.1, .bool (hdAns z).2.2]) ∧ Below w.heap.size w w' := by
  have HV := Lib.hid (fun w => bitsValid_any z w (by omega))
  cases hb : bitsB z with
  | false =>
    have HX := Lib.hid (hd_no (z := z) (by rw [hb]; simp))
    rw [hb] at HV
    clear hb hp
    go_enter Tryd.func14, Tryd.ntmps14
    go_wp2_with fail
    refine (HV.out _).mono ?_
    rintro e w1 ⟨rfl, rfl⟩
    go_wp2
    refine bodyPost_ret (v := .tuple #[.string ⟨#[]⟩, .int .i64 0, .bool false]) (by simp [results, Tryd.results14, go_sem]) rfl ?_
    exact ⟨ret_H HX.out, Below.refl _ _⟩
  | true =>
    rw [hb] at HV
    obtain ⟨ho, h6⟩ := bits_of2 hb
    by_cases h7 : z.size % 7 = 0
    · obtain ⟨n, hn⟩ : ∃ n, z.size / 7 = n := ⟨_, rfl⟩
      have hzn : z.size = 7 * n := by omega
      have HX : Hid (hdAns z = (strF (4 * n) (decF z), ((cntF z n : Nat) : Int), true)) := Lib.hid (by unfold hdAns; rw [if_pos ⟨hb, h7⟩, hn, Nat.mul_comm n 4])
      have t1 : (z.size : Int) % 7 = 0 := by omega
      have HO := Lib.hid ho
      have HP := Lib.hid hp
      clear hb ho h7 hn hp
      go_enter Tryd.func14, Tryd.ntmps14
      go_wp2_with fail
      refine (HV.out _).mono ?_
      rintro e w1 ⟨rfl, rfl⟩
      go_wp2
      clear t1
      go_loopw [5, 6, 7] (fun s c i wr => ∃ b : Nat, b ≤ n ∧ i = .int .i64 (7 * b : Nat) ∧ BO wr w.heap.size s (4 * b) (decF z) ∧ c = .int .i64 (cntF z b : Nat) ∧ Below w.heap.size w wr) (fun _ _ i _ => z.size - (intOf i).toNat)
      case atStart => exact ⟨0, by omega, by simp, BO.nil _ _ _, rfl, Below.refl _ _⟩
      case round =>
        obtain ⟨b, hk, rfl, rO, rfl, b0⟩ := hrel
        have hpl := PlacesAt.below HP.out h0 b0
        by_cases hlt : b < n
        · have hle : 7 * b + 7 ≤ z.size := by omega
          have hsB := size_extract z (7 * b) (7 * b + 7) hle
          have hsy := syn_blk z b hle
          have hok := okCut HO.out (7 * b) (7 * b + 7) hle
          have hyz : ∀ j, j < 7 → zb (z.extract (7 * b) (7 * b + 7)) j = blkF z b j := fun j hj => by rw [zb_extract _ _ _ _ hle (by omega)]; rfl
          have hcl := cntF_le z b
          have hc1 : cntF z (b + 1) = cntF z b + (if synF (blkF z b) 7 = 0 then 0 else 1) := rfl
          have hKl := synF_lt (blkF z b) 7 (by omega)
          have hcor : ∀ j, corF (blkF z b) j = if synF (blkF z b) 7 = j + 1 then 97 - blkF z b j else blkF z b j := fun j => rfl
          have hdec : ∀ j, j < 4 → decF z (4 * b + j) = corF (blkF z b) (plF4 j) := fun j hj => by unfold decF; rw [show (4 * b + j) / 4 = b by omega, show (4 * b + j) % 4 = j by omega]
          obtain ⟨B, hB⟩ : ∃ B, z.extract (7 * b) (7 * b + 7) = B := ⟨_, rfl⟩
          obtain ⟨K, hK⟩ : ∃ K, synF (blkF z b) 7 = K := ⟨_, rfl⟩
          rw [hB] at hsB hsy hok hyz
          rw [hK] at hsy hc1 hKl hcor
          have hs7 : B.size = 7 := by omega
          obtain ⟨W1, c, hcv, hfr, hB1, hR⟩ := conv_row wr B hs7
          have hL := syn_any wr.heap.size 0 c (zb B) W1 (fun i hi => by rw [Nat.zero_add]; exact hR.2.1 i hi)
          rw [hsy] at hL
          have HPE : Hid (7 * (b + 1) = 7 * b + 7) := Lib.hid (by omega)
          obtain ⟨C, hC⟩ : ∃ C, cntF z b = C := ⟨_, rfl⟩
          rw [hC] at hc1 hcl ⊢
          obtain ⟨P, hP⟩ : ∃ P, 7 * b = P := ⟨_, rfl⟩
          rw [hP] at hB hle HPE ⊢
          obtain ⟨E, hE⟩ : ∃ E, P + 7 = E := ⟨_, rfl⟩
          rw [hE] at hB hle HPE
          have hE' : (P : Int) + 7 = (E : Int) := by omega
          have i0 : (0 : Int) ≤ (P : Int) := by omega
          have i1 : (P : Int) ≤ (E : Int) := by omega
          have i2 : (E : Int) ≤ (z.size : Int) := by omega
          have i3 : (P : Int) < (z.size : Int) := by omega
          have HL := Lib.hid hL
          have HEN := Lib.hid hE
          have HK := Lib.hid hlt
          have hCb : C ≤ 149797 := by omega
          have rO1 := rO.below hB1
          have bb1 := below_then b0 (Nat.le_refl _) hB1
          have hp1 := PlacesAt.below hpl (by have := b0.size; omega) hB1
          obtain ⟨g, hg⟩ : ∃ g, wr.heap.size = g := ⟨_, rfl⟩
          rw [hg] at hcv hR HL hfr
          by_cases hK0 : K = 0
          · have hy : ∀ j, j < 4 → decF z (4 * b + j) = zb B (plF4 j) := fun j hj => by rw [hdec j hj, hyz _ (by unfold plF4; split <;> (try omega); split <;> (try omega); split <;> omega), hcor, if_neg (by omega)]
            rw [if_pos hK0, Nat.add_zero] at hc1
            have HC1 := Lib.hid hc1
            have t1 : (((K : Nat) : Int) != 0) = false := by rw [hK0]; rfl
            obtain ⟨T, hT⟩ : ∃ T, ((K : Nat) : Int) = T := ⟨_, rfl⟩
            rw [hT] at HL t1
            obtain ⟨q0, q1, q2, q3⟩ := hp1
            obtain ⟨y, hyy⟩ : ∃ y, zb B = y := ⟨_, rfl⟩
            rw [hyy] at hR hy
            have HY := Lib.hid hy
            have HR := Lib.hid hR
            have HO1 := Lib.hid rO1
            have HBB := Lib.hid bb1
            clear hyz hcor hy hc1 hcl hK hsy hKl hL hok hlt hK0 hsB hC hE hP b0 hT hle hk hR rO1 bb1 hyy hs7 hdec hpl rO hB1 hfr
            go_wp2_with fail
            refine HL.out.mono ?_
            rintro e w1 ⟨rfl, rfl⟩
            go_wp2
            go_loopw [5, 50] (fun v i wx => ∃ j : Nat, j ≤ 4 ∧ i = .int .i64 j ∧ BO wx w.heap.size v (4 * b + j) (decF z) ∧ RowG wx g y ∧ Below w.heap.size w wx) (fun _ i _ => 4 - (intOf i).toNat)
            case atStart => exact ⟨0, by omega, rfl, by rw [Nat.add_zero]; exact HO1.out, HR.out, HBB.out⟩
            case round =>
              obtain ⟨j, hj, rfl, rI, rR, rb⟩ := hrel
              have hyr := rR.2.1
              by_cases hj4 : j < 4
              · rcases (by omega : j = 0 ∨ j = 1 ∨ j = 2 ∨ j = 3) with rfl | rfl | rfl | rfl
                · have cX := hyr 2 (by omega)
                  have HX1 : Hid (decF z (4 * b + 0) = y 2) := Lib.hid (HY.out 0 (by omega))
                  obtain ⟨X, hX⟩ : ∃ X, y 2 = X := ⟨_, rfl⟩
                  rw [hX] at cX HX1
                  clear hyr hX hj hj4
                  have hix : ∀ W : World, (Instr.index 56 (.agg #[.int .i64 3, .int .i64 5, .int .i64 6, .int .i64 7]) (.int .i64 0)).run Tryd.prog W = .ok (.int .i64 3) W := fun W => places_at W 0 3 (by omega)
                  go_wp2_with (at_builtin; refine wpList_append_bytes rfl (.tmp 53) (.tmp 59) rfl w.heap.size _ (4 * b + 0) (decF z) rfl (rI.alloc _) wr.heap.size 0 1 1 (fun _ => X) rfl (fun i hi => by have e0 : i = 0 := (by omega); subst e0; simp) (by have := HK.out; omega) (by have := rb.size; simp; omega) ?_; intro v' w' O3 g3)
                  have O4 := Lib.hid (O3.congr (g := decF z) (fun i hi => by
                    by_cases e : i < 4 * b + 0
                    · rw [if_pos e]
                    · rw [if_neg e, show i = 4 * b + 0 by omega, HX1.out]))
                  have R4 := Lib.hid ((rR.alloc _).grown g3 (rR.apart rI))
                  have hsz := rb.size
                  have nb := Lib.hid ((rb.alloc hsz _).grown g3 (by simp; omega) (fun q hq => (rI.lt q hq).1))
                  clear O3 g3 rI rb rR hsz cX
                  go_wp2
                  go_roundw
                  case rel => exact ⟨1, by omega, by go_num, O4.out, R4.out, nb.out⟩
                  case measure => simp [intOf]
                · have cX := hyr 4 (by omega)
                  have HX1 : Hid (decF z (4 * b + 1) = y 4) := Lib.hid (HY.out 1 (by omega))
                  obtain ⟨X, hX⟩ : ∃ X, y 4 = X := ⟨_, rfl⟩
                  rw [hX] at cX HX1
                  clear hyr hX hj hj4
                  have hix : ∀ W : World, (Instr.index 56 (.agg #[.int .i64 3, .int .i64 5, .int .i64 6, .int .i64 7]) (.int .i64 1)).run Tryd.prog W = .ok (.int .i64 5) W := fun W => places_at W 1 5 (by omega)
                  go_wp2_with (at_builtin; refine wpList_append_bytes rfl (.tmp 53) (.tmp 59) rfl w.heap.size _ (4 * b + 1) (decF z) rfl (rI.alloc _) wr.heap.size 0 1 1 (fun _ => X) rfl (fun i hi => by have e0 : i = 0 := (by omega); subst e0; simp) (by have := HK.out; omega) (by have := rb.size; simp; omega) ?_; intro v' w' O3 g3)
                  have O4 := Lib.hid (O3.congr (g := decF z) (fun i hi => by
                    by_cases e : i < 4 * b + 1
                    · rw [if_pos e]
                    · rw [if_neg e, show i = 4 * b + 1 by omega, HX1.out]))
                  have R4 := Lib.hid ((rR.alloc _).grown g3 (rR.apart rI))
                  have hsz := rb.size
                  have nb := Lib.hid ((rb.alloc hsz _).grown g3 (by simp; omega) (fun q hq => (rI.lt q hq).1))
                  clear O3 g3 rI rb rR hsz cX
                  go_wp2
                  go_roundw
                  case rel => exact ⟨2, by omega, by go_num, O4.out, R4.out, nb.out⟩
                  case measure => simp [intOf]
                · have cX := hyr 5 (by omega)
                  have HX1 : Hid (decF z (4 * b + 2) = y 5) := Lib.hid (HY.out 2 (by omega))
                  obtain ⟨X, hX⟩ : ∃ X, y 5 = X := ⟨_, rfl⟩
                  rw [hX] at cX HX1
                  clear hyr hX hj hj4
                  have hix : ∀ W : World, (Instr.index 56 (.agg #[.int .i64 3, .int .i64 5, .int .i64 6, .int .i64 7]) (.int .i64 2)).run Tryd.prog W = .ok (.int .i64 6) W := fun W => places_at W 2 6 (by omega)
                  go_wp2_with (at_builtin; refine wpList_append_bytes rfl (.tmp 53) (.tmp 59) rfl w.heap.size _ (4 * b + 2) (decF z) rfl (rI.alloc _) wr.heap.size 0 1 1 (fun _ => X) rfl (fun i hi => by have e0 : i = 0 := (by omega); subst e0; simp) (by have := HK.out; omega) (by have := rb.size; simp; omega) ?_; intro v' w' O3 g3)
                  have O4 := Lib.hid (O3.congr (g := decF z) (fun i hi => by
                    by_cases e : i < 4 * b + 2
                    · rw [if_pos e]
                    · rw [if_neg e, show i = 4 * b + 2 by omega, HX1.out]))
                  have R4 := Lib.hid ((rR.alloc _).grown g3 (rR.apart rI))
                  have hsz := rb.size
                  have nb := Lib.hid ((rb.alloc hsz _).grown g3 (by simp; omega) (fun q hq => (rI.lt q hq).1))
                  clear O3 g3 rI rb rR hsz cX
                  go_wp2
                  go_roundw
                  case rel => exact ⟨3, by omega, by go_num, O4.out, R4.out, nb.out⟩
                  case measure => simp [intOf]
                · have cX := hyr 6 (by omega)
                  have HX1 : Hid (decF z (4 * b + 3) = y 6) := Lib.hid (HY.out 3 (by omega))
                  obtain ⟨X, hX⟩ : ∃ X, y 6 = X := ⟨_, rfl⟩
                  rw [hX] at cX HX1
                  clear hyr hX hj hj4
                  have hix : ∀ W : World, (Instr.index 56 (.agg #[.int .i64 3, .int .i64 5, .int .i64 6, .int .i64 7]) (.int .i64 3)).run Tryd.prog W = .ok (.int .i64 7) W := fun W => places_at W 3 7 (by omega)
                  go_wp2_with (at_builtin; refine wpList_append_bytes rfl (.tmp 53) (.tmp 59) rfl w.heap.size _ (4 * b + 3) (decF z) rfl (rI.alloc _) wr.heap.size 0 1 1 (fun _ => X) rfl (fun i hi => by have e0 : i = 0 := (by omega); subst e0; simp) (by have := HK.out; omega) (by have := rb.size; simp; omega) ?_; intro v' w' O3 g3)
                  have O4 := Lib.hid (O3.congr (g := decF z) (fun i hi => by
                    by_cases e : i < 4 * b + 3
                    · rw [if_pos e]
                    · rw [if_neg e, show i = 4 * b + 3 by omega, HX1.out]))
                  have R4 := Lib.hid ((rR.alloc _).grown g3 (rR.apart rI))
                  have hsz := rb.size
                  have nb := Lib.hid ((rb.alloc hsz _).grown g3 (by simp; omega) (fun q hq => (rI.lt q hq).1))
                  clear O3 g3 rI rb rR hsz cX
                  go_wp2
                  go_roundw
                  case rel => exact ⟨4, by omega, by go_num, O4.out, R4.out, nb.out⟩
                  case measure => simp [intOf]
              · obtain rfl : j = 4 := by omega
                clear hyr hj hj4
                go_wp2
                go_roundw
                case rel => exact ⟨b + 1, HK.out, by rw [HPE.out], by rw [show 4 * (b + 1) = 4 * b + 4 by omega]; exact rI, by rw [HC1.out]; rfl, rb⟩
                case measure => have := HEN.out; simp [intOf]; omega
          · obtain ⟨k, hk1⟩ : ∃ k, K = k + 1 := ⟨K - 1, by omega⟩
            have hk7 : k < 7 := by omega
            have hbit := okB_zb B hok k (by omega)
            obtain ⟨V, hV⟩ : ∃ V, 97 - zb B k = V := ⟨_, rfl⟩
            have hBS := fun w => bitSum_any (zb B k) 49 w hbit (.inr rfl)
            rw [show addB (zb B k) 49 = V by unfold addB; rcases hbit with h | h <;> rw [h] at hV ⊢ <;> simp <;> omega] at hBS
            have cX := hR.2.1 k hk7
            have fX := hfr k hk7
            have hR2 := hR.set (V := V) hk7
            have hB2 := bytes_below hB1 (Nat.le_of_eq hg) k (.int .u8 (V : Nat))
            have rO2 := rO.below hB2
            have bb2 := below_then b0 (Nat.le_refl _) hB2
            obtain ⟨q0, q1, q2, q3⟩ := hp1
            have g0 : g ≠ 0 := by have := b0.size; omega
            have hp2 : PlacesAt (W1.setCell ⟨g, k, none⟩ (.int .u8 (V : Nat))) := by
              refine ⟨?_, ?_, ?_, ?_⟩ <;> rw [World.cell?_setCell_other _ _ _ _ (by intro h; injection h with h _ _; exact g0 h)] <;> assumption
            obtain ⟨r0, r1, r2, r3⟩ := hp2
            have hy : ∀ j, j < 4 → decF z (4 * b + j) = (fun i => if i = k then V else zb B i) (plF4 j) := fun j hj => by
              have hpj : plF4 j < 7 := by unfold plF4; split <;> (try omega); split <;> (try omega); split <;> omega
              rw [hdec j hj, hcor, ← hyz _ hpj]
              by_cases e : plF4 j = k
              · rw [if_pos (by omega)]; simp only [e, if_true]; exact hV
              · rw [if_neg (by omega)]; simp only [e, if_false]
            obtain ⟨y, hyy⟩ : ∃ y : Nat → Nat, (fun i => if i = k then V else zb B i) = y := ⟨_, rfl⟩
            rw [hyy] at hR2 hy
            rw [if_neg hK0] at hc1
            have HC1 := Lib.hid hc1
            have t1 : (((K : Nat) : Int) != 0) = true := by simp; omega
            have t2 : ((K : Nat) : Int) ≤ 7 := by omega
            have t3 : (0 : Int) < ((K : Nat) : Int) := by omega
            have v1 : ((K : Nat) : Int) - 1 = (k : Int) := by omega
            have v2 : IntKind.i64.wrap (((K : Nat) : Int) - 1) = (k : Int) := by rw [v1]; exact IntWalk.i64_in _ (by omega)
            obtain ⟨T, hT⟩ : ∃ T, ((K : Nat) : Int) = T := ⟨_, rfl⟩
            rw [hT] at HL t1 t2 t3 v1 v2
            have k0 : (0 : Int) ≤ (k : Int) := by omega
            have k7 : (k : Int) < 7 := by omega
            obtain ⟨X, hX⟩ : ∃ X, zb B k = X := ⟨_, rfl⟩
            rw [hX] at hBS cX
            have HBS := Lib.hid hBS
            have HY := Lib.hid hy
            have HR := Lib.hid hR2
            have HO1 := Lib.hid rO2
            have HBB := Lib.hid bb2
            clear hyz hcor hy hc1 hcl hK hsy hKl hL hok hlt hK0 hsB hC hE hP b0 hT hle hk hR rO1 bb1 hyy hs7 hdec hpl rO hB1 hfr hBS hX hV hbit hR2 rO2 bb2 hB2 hk1 g0
            go_wp2_with fail
            refine HL.out.mono ?_
            rintro e w1 ⟨rfl, rfl⟩
            go_wp2_with fail
            refine (HBS.out _).mono ?_
            rintro e w1 ⟨rfl, rfl⟩
            go_wp2
            go_loopw [5, 50] (fun v i wx => ∃ j : Nat, j ≤ 4 ∧ i = .int .i64 j ∧ BO wx w.heap.size v (4 * b + j) (decF z) ∧ RowG wx g y ∧ Below w.heap.size w wx) (fun _ i _ => 4 - (intOf i).toNat)
            case atStart => exact ⟨0, by omega, rfl, by rw [Nat.add_zero]; exact HO1.out, HR.out, HBB.out⟩
            case round =>
              obtain ⟨j, hj, rfl, rI, rR, rb⟩ := hrel
              have hyr := rR.2.1
              by_cases hj4 : j < 4
              · rcases (by omega : j = 0 ∨ j = 1 ∨ j = 2 ∨ j = 3) with rfl | rfl | rfl | rfl
                · have cX := hyr 2 (by omega)
                  have HX1 : Hid (decF z (4 * b + 0) = y 2) := Lib.hid (HY.out 0 (by omega))
                  obtain ⟨X, hX⟩ : ∃ X, y 2 = X := ⟨_, rfl⟩
                  rw [hX] at cX HX1
                  clear hyr hX hj hj4
                  have hix : ∀ W : World, (Instr.index 56 (.agg #[.int .i64 3, .int .i64 5, .int .i64 6, .int .i64 7]) (.int .i64 0)).run Tryd.prog W = .ok (.int .i64 3) W := fun W => places_at W 0 3 (by omega)
                  go_wp2_with (at_builtin; refine wpList_append_bytes rfl (.tmp 53) (.tmp 59) rfl w.heap.size _ (4 * b + 0) (decF z) rfl (rI.alloc _) wr.heap.size 0 1 1 (fun _ => X) rfl (fun i hi => by have e0 : i = 0 := (by omega); subst e0; simp) (by have := HK.out; omega) (by have := rb.size; simp; omega) ?_; intro v' w' O3 g3)
                  have O4 := Lib.hid (O3.congr (g := decF z) (fun i hi => by
                    by_cases e : i < 4 * b + 0
                    · rw [if_pos e]
                    · rw [if_neg e, show i = 4 * b + 0 by omega, HX1.out]))
                  have R4 := Lib.hid ((rR.alloc _).grown g3 (rR.apart rI))
                  have hsz := rb.size
                  have nb := Lib.hid ((rb.alloc hsz _).grown g3 (by simp; omega) (fun q hq => (rI.lt q hq).1))
                  clear O3 g3 rI rb rR hsz cX
                  go_wp2
                  go_roundw
                  case rel => exact ⟨1, by omega, by go_num, O4.out, R4.out, nb.out⟩
                  case measure => simp [intOf]
                · have cX := hyr 4 (by omega)
                  have HX1 : Hid (decF z (4 * b + 1) = y 4) := Lib.hid (HY.out 1 (by omega))
                  obtain ⟨X, hX⟩ : ∃ X, y 4 = X := ⟨_, rfl⟩
                  rw [hX] at cX HX1
                  clear hyr hX hj hj4
                  have hix : ∀ W : World, (Instr.index 56 (.agg #[.int .i64 3, .int .i64 5, .int .i64 6, .int .i64 7]) (.int .i64 1)).run Tryd.prog W = .ok (.int .i64 5) W := fun W => places_at W 1 5 (by omega)
                  go_wp2_with (at_builtin; refine wpList_append_bytes rfl (.tmp 53) (.tmp 59) rfl w.heap.size _ (4 * b + 1) (decF z) rfl (rI.alloc _) wr.heap.size 0 1 1 (fun _ => X) rfl (fun i hi => by have e0 : i = 0 := (by omega); subst e0; simp) (by have := HK.out; omega) (by have := rb.size; simp; omega) ?_; intro v' w' O3 g3)
                  have O4 := Lib.hid (O3.congr (g := decF z) (fun i hi => by
                    by_cases e : i < 4 * b + 1
                    · rw [if_pos e]
                    · rw [if_neg e, show i = 4 * b + 1 by omega, HX1.out]))
                  have R4 := Lib.hid ((rR.alloc _).grown g3 (rR.apart rI))
                  have hsz := rb.size
                  have nb := Lib.hid ((rb.alloc hsz _).grown g3 (by simp; omega) (fun q hq => (rI.lt q hq).1))
                  clear O3 g3 rI rb rR hsz cX
                  go_wp2
                  go_roundw
                  case rel => exact ⟨2, by omega, by go_num, O4.out, R4.out, nb.out⟩
                  case measure => simp [intOf]
                · have cX := hyr 5 (by omega)
                  have HX1 : Hid (decF z (4 * b + 2) = y 5) := Lib.hid (HY.out 2 (by omega))
                  obtain ⟨X, hX⟩ : ∃ X, y 5 = X := ⟨_, rfl⟩
                  rw [hX] at cX HX1
                  clear hyr hX hj hj4
                  have hix : ∀ W : World, (Instr.index 56 (.agg #[.int .i64 3, .int .i64 5, .int .i64 6, .int .i64 7]) (.int .i64 2)).run Tryd.prog W = .ok (.int .i64 6) W := fun W => places_at W 2 6 (by omega)
                  go_wp2_with (at_builtin; refine wpList_append_bytes rfl (.tmp 53) (.tmp 59) rfl w.heap.size _ (4 * b + 2) (decF z) rfl (rI.alloc _) wr.heap.size 0 1 1 (fun _ => X) rfl (fun i hi => by have e0 : i = 0 := (by omega); subst e0; simp) (by have := HK.out; omega) (by have := rb.size; simp; omega) ?_; intro v' w' O3 g3)
                  have O4 := Lib.hid (O3.congr (g := decF z) (fun i hi => by
                    by_cases e : i < 4 * b + 2
                    · rw [if_pos e]
                    · rw [if_neg e, show i = 4 * b + 2 by omega, HX1.out]))
                  have R4 := Lib.hid ((rR.alloc _).grown g3 (rR.apart rI))
                  have hsz := rb.size
                  have nb := Lib.hid ((rb.alloc hsz _).grown g3 (by simp; omega) (fun q hq => (rI.lt q hq).1))
                  clear O3 g3 rI rb rR hsz cX
                  go_wp2
                  go_roundw
                  case rel => exact ⟨3, by omega, by go_num, O4.out, R4.out, nb.out⟩
                  case measure => simp [intOf]
                · have cX := hyr 6 (by omega)
                  have HX1 : Hid (decF z (4 * b + 3) = y 6) := Lib.hid (HY.out 3 (by omega))
                  obtain ⟨X, hX⟩ : ∃ X, y 6 = X := ⟨_, rfl⟩
                  rw [hX] at cX HX1
                  clear hyr hX hj hj4
                  have hix : ∀ W : World, (Instr.index 56 (.agg #[.int .i64 3, .int .i64 5, .int .i64 6, .int .i64 7]) (.int .i64 3)).run Tryd.prog W = .ok (.int .i64 7) W := fun W => places_at W 3 7 (by omega)
                  go_wp2_with (at_builtin; refine wpList_append_bytes rfl (.tmp 53) (.tmp 59) rfl w.heap.size _ (4 * b + 3) (decF z) rfl (rI.alloc _) wr.heap.size 0 1 1 (fun _ => X) rfl (fun i hi => by have e0 : i = 0 := (by omega); subst e0; simp) (by have := HK.out; omega) (by have := rb.size; simp; omega) ?_; intro v' w' O3 g3)
                  have O4 := Lib.hid (O3.congr (g := decF z) (fun i hi => by
                    by_cases e : i < 4 * b + 3
                    · rw [if_pos e]
                    · rw [if_neg e, show i = 4 * b + 3 by omega, HX1.out]))
                  have R4 := Lib.hid ((rR.alloc _).grown g3 (rR.apart rI))
                  have hsz := rb.size
                  have nb := Lib.hid ((rb.alloc hsz _).grown g3 (by simp; omega) (fun q hq => (rI.lt q hq).1))
                  clear O3 g3 rI rb rR hsz cX
                  go_wp2
                  go_roundw
                  case rel => exact ⟨4, by omega, by go_num, O4.out, R4.out, nb.out⟩
                  case measure => simp [intOf]
              · obtain rfl : j = 4 := by omega
                clear hyr hj hj4
                go_wp2
                go_roundw
                case rel => exact ⟨b + 1, HK.out, by rw [HPE.out], by rw [show 4 * (b + 1) = 4 * b + 4 by omega]; exact rI, by rw [HC1.out]; go_num, rb⟩
                case measure => have := HEN.out; simp [intOf]; omega
        · obtain rfl : b = n := by omega
          have j1 : ¬ ((7 * b : Nat) : Int) < (z.size : Int) := by omega
          obtain ⟨P, hP⟩ : ∃ P, 7 * b = P := ⟨_, rfl⟩
          rw [hP] at j1 ⊢
          have hcv := BO.str rO
          clear hP hzn hlt hk rO hpl
          go_wp2
          refine bodyPost_ret (v := .tuple #[.string (strF (4 * b) (decF z)), .int .i64 (cntF z b : Nat), .bool true]) (by simp [results, Tryd.results14, go_sem]) rfl ?_
          exact ⟨ret_H HX.out, b0⟩
    · have HX := Lib.hid (hd_no (z := z) (fun h => h7 h.2))
      obtain ⟨M, hM⟩ : ∃ M, z.size % 7 = M := ⟨_, rfl⟩
      have t1 : (z.size : Int) % 7 = (M : Int) := by omega
      have t2 : ((M : Int) != 0) = true := by simp; omega
      clear hb h7 hM hp
      go_enter Tryd.func14, Tryd.ntmps14
      go_wp2_with fail
      refine (HV.out _).mono ?_
      rintro e w1 ⟨rfl, rfl⟩
      go_wp2
      refine bodyPost_ret (v := .tuple #[.string ⟨#[]⟩, .int .i64 0, .bool false]) (by simp [results, Tryd.results14, go_sem]) rfl ?_
      exact ⟨ret_H HX.out, Below.refl _ _⟩
end Go.Proofs.YtabokoodpobnnaaDoor
