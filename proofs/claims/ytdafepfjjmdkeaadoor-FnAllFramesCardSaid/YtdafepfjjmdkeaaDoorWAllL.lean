/- The walk of the law FnAllFrames. -/
import Derived.Test.YtdafepfjjmdkeaaDoorFndI
import Derived.Test.YtdafepfjjmdkeaaDoorAllI
import Derived.Test.YtdafepfjjmdkeaaDoorMrgF
import Derived.Test.YtdafepfjjmdkeaaDoorDrawFnd
import Derived.Test.YtdafepfjjmdkeaaDoorZer
import Derived.Deep.RegionHeld3
namespace Go.Proofs.YtdafepfjjmdkeaaDoor
open Go.RowKit
set_option linter.unusedVariables false
set_option maxRecDepth 100000
theorem SF.twoA (w : World) (a b : ByteArray) : SF (w.alloc (.cells #[.string a, .string b] 9)) w.heap.size (.slice (some ⟨w.heap.size, 0, none⟩) 2 2) 2 (fun i => if i = 0 then a else b) := by
  refine ⟨by simp, .inr ⟨w.heap.size, 2, #[.string a, .string b], rfl, Nat.le_refl _, ?_, Nat.le_refl _, by unfold maxLen; omega, by simp, ?_⟩⟩
  · show (w.heap.push _)[w.heap.size]? = _
    simp
  · simp [List.range_succ]
theorem ssTexts_same (v u : Value) (n : Nat) (f : Nat → ByteArray) (w : World) (hv : Strs w v n f) (hu : Strs w u n f) (hn : n ≤ 1048576) :
    Calls Tryd.prog 25 #[v, u] w fun e w' => e = .returned (.bool true) ∧ ∃ m, w' = w.drewN m := by
  obtain ⟨a, cap, rfl, ha⟩ := hv
  obtain ⟨b, cap', rfl, hb⟩ := hu
  have HA := Lib.hid ha
  have HB := Lib.hid hb
  clear ha hb
  go_enter Tryd.func25, Tryd.ntmps25
  go_wp2
  go_loopw [5] (fun i wr => ∃ k m : Nat, k ≤ n ∧ i = .int .i64 k ∧ wr = w.drewN m) (fun i _ => n - (intOf i).toNat)
  case atStart => exact ⟨0, 0, by omega, rfl, rfl⟩
  case round =>
    obtain ⟨k, m, hk, rfl, rfl⟩ := hrel
    by_cases hlt : k < n
    · obtain ⟨x, rfl, hx, c1⟩ := HA.out k hlt
      obtain ⟨y, rfl, hy, c2⟩ := HB.out k hlt
      have d1 : (w.drewN m).cell? (x.add k) = some (.string (f k)) := c1
      have d2 : (w.drewN m).cell? (y.add k) = some (.string (f k)) := c2
      obtain ⟨W, hW⟩ : ∃ W, w.drewN m = W := ⟨_, rfl⟩
      rw [hW] at d1 d2 ⊢
      have HW := Lib.hid hW
      have i0 : (0 : Int) ≤ (k : Int) := by omega
      have i1 : (k : Int) < (n : Int) := by omega
      clear hW c1 c2 hx hy
      go_wp2_with fail
      go_quiet (fail)
      clear d1 d2
      go_wp2
      go_roundw
      case rel => exact ⟨k + 1, m + nq, by omega, by go_num, by rw [← HW.out, World.drewN_drewN]⟩
      case measure => simp [intOf]; omega
    · obtain rfl : k = n := by omega
      go_wp2
      go_ret
      exact ⟨rfl, m, rfl⟩
set_option maxHeartbeats 3200000 in
theorem fnAllFrames_walk (a0 : Option Addr) (len0 cap0 : Nat) (z0 : List Int) (a1 : Option Addr) (len1 cap1 : Nat) (z1 : List Int) (w : World) (w0 : IsBytes w a0 len0 cap0 z0) (w1 : IsBytes w a1 len1 cap1 z1) (hd : DoorAt w) :
    Calls Tryd.prog 8 #[.slice a0 len0 cap0, .slice a1 len1 cap1] w fun e w' => e = .returned (.bool true) ∧ Below w.heap.size w w' := by
  by_cases hl0 : 1048576 < len0
  · go_enter Tryd.func8, Tryd.ntmps8
    go_wp2
    go_ret
    exact ⟨rfl, Below.refl _ _⟩
  by_cases hl1 : 1048576 < len1
  · go_enter Tryd.func8, Tryd.ntmps8
    go_wp2
    go_ret
    exact ⟨rfl, Below.refl _ _⟩
  have HD := Lib.hid (fun w1 (b1 : Below w.heap.size w w1) => hd.below b1 hd.lt)
  obtain ⟨Q, hQ, hQ20⟩ : ∃ Q : Nat, len1 % 20 = Q ∧ Q < 20 := ⟨_, rfl, Nat.mod_lt _ (by omega)⟩
  have t1 : (len1 : Int).tmod 20 = (Q : Int) := by rw [Int.tmod_eq_emod_of_nonneg (by omega)]; omega
  clear hd w1 hQ
  go_enter Tryd.func8, Tryd.ntmps8
  go_wp2_with fail
  refine (drawAllF_any a0 len0 cap0 z0 _ w0).mono ?_
  rintro e W1 ⟨z, rfl, hz, b1⟩
  clear w0
  obtain ⟨N, hN⟩ := allN_ex z
  have hN7 : N ≤ 700 := by
    cases hb : bitsB z with
    | true => have := (hN.1 hb).1; omega
    | false => have := hN.2 hb; omega
  have HA := Lib.hid (fun w hd => iAll_any z N w (by omega) hN hd)
  have HS := Lib.hid (fun w => sAll_any z N w (by omega) hN)
  have HF := Lib.hid (fun k w hd => iFind_any z k w (by omega) hd)
  have HP := Lib.hid (fun k w => iParse_any z k w (by omega))
  have HST : Hid (∀ i, i < N → fndV z (atF z i : Nat) = (nx z (atF z i) : Nat) ∧ parAns z (nx z (atF z i) : Nat) = (alF z i, ((atF z (i + 1) : Nat) : Int), true) ∧ nx z (atF z i) ≤ 600 ∧ atF z (i + 1) ≤ 600) := Lib.hid (fun i hi => by
    cases hb : bitsB z with
    | true => exact all_step hb (hN.1 hb) hi
    | false => have := hN.2 hb; omega)
  have HL : Hid (fndV z (atF z N : Nat) = -1) := Lib.hid (by
    cases hb : bitsB z with
    | true => exact all_last (hN.1 hb)
    | false => exact fndV_no (by rw [hb]; simp))
  have HPY : Hid (0 < N → payB (alF z 0) = true) := Lib.hid (fun h => by
    cases hb : bitsB z with
    | true => exact hit_pay2 hb (nx_yes ((hN.1 hb).2.1 0 h))
    | false => have := hN.2 hb; omega)
  have HTX := Lib.hid (fun v u w hv hu => ssTexts_same v u N (alF z) w hv hu (by omega))
  clear hN
  go_wp2_with fail
  refine (HA.out _ (HD.out _ b1)).mono ?_
  rintro e w2 ⟨v, rfl, O2, hb⟩
  have b2 := below_then b1 (Nat.le_refl _) hb
  clear b1 hb HA
  go_wp2_with fail
  refine (HS.out _).mono ?_
  rintro e w3 ⟨u, rfl, U3, hb⟩
  have b3 := below_then b2 (Nat.le_refl _) hb
  have O3 := O2.below hb
  clear b2 hb HS O2
  go_wp2_with fail
  refine (HTX.out _ _ _ O3.strs U3.strs).mono ?_
  rintro e w4 ⟨rfl, m, rfl⟩
  have b4 := below_drewN b3 m
  have O4 := O3.drewN m
  obtain ⟨W, hW⟩ : ∃ W, w3.drewN m = W := ⟨_, rfl⟩
  rw [hW] at b4 O4 ⊢
  obtain ⟨oa, oc, rfl, hoo⟩ := O4.form
  have HOO := Lib.hid hoo
  clear b3 O3 U3 HTX hW O4 hoo
  go_wp2
  go_loopw [7, 8] (fun t i wr => ∃ k p : Nat, k ≤ N ∧ i = .int .i64 k ∧ t = .int .i64 p ∧ Hid (p = atF z k) ∧ Below W.heap.size W wr ∧ Below w.heap.size w wr) (fun _ i _ => N - (intOf i).toNat)
  case atStart => exact ⟨0, 0, Nat.zero_le _, rfl, rfl, Lib.hid rfl, Below.refl _ _, b4⟩
  case round =>
    clear b4
    obtain ⟨k, p, hk, rfl, rfl, HPK, rc, rb⟩ := hrel
    by_cases hlt : k < N
    · obtain ⟨g, rfl, _, hgl, hcc⟩ := HOO.out (by omega)
      have d0 := (rc.cell (p := ⟨g, k, none⟩) hgl).trans (hcc k hlt).1
      obtain ⟨e1, e2, e3, e4⟩ := HST.out k hlt
      rw [← HPK.out] at e1 e2 e3
      have hf := fun w hd => HF.out (p : Int) w hd
      simp only [e1] at hf
      obtain ⟨n, hn⟩ : ∃ n, nx z p = n := ⟨_, rfl⟩
      obtain ⟨q, hq⟩ : ∃ q, atF z (k + 1) = q := ⟨_, rfl⟩
      obtain ⟨y, hy⟩ : ∃ y, alF z k = y := ⟨_, rfl⟩
      simp only [hn] at hf
      rw [hn, hq, hy] at e2
      have hp := fun w => HP.out (n : Int) w
      simp only [e2] at hp
      rw [hy] at d0
      rw [hn] at e3
      rw [hq] at e4
      have HFK := Lib.hid hf
      have HPP := Lib.hid hp
      have HQK := Lib.hid hq.symm
      have i0 : (0 : Int) ≤ (k : Int) := by omega
      have i1 : (k : Int) < (N : Int) := by omega
      clear hf hp hn hq hy e1 e2 hcc
      go_wp2_with fail
      refine (HFK.out _ (HD.out _ rb)).mono ?_
      rintro e w5 ⟨rfl, hb⟩
      have b5 := below_then rb (Nat.le_refl _) hb
      have c5 := below_then rc (Nat.le_refl _) hb
      have d5 := (hb.cell (p := ⟨g, k, none⟩) (World.block_lt_of_cell? _ _ d0)).trans d0
      clear rb rc hb d0
      go_wp2_with fail
      refine (HPP.out _).mono ?_
      rintro e w6 ⟨rfl, hb⟩
      have b6 := below_then b5 (Nat.le_refl _) hb
      have c6 := below_then c5 (Nat.le_refl _) hb
      have d6 := (hb.cell (p := ⟨g, k, none⟩) (World.block_lt_of_cell? _ _ d5)).trans d5
      clear b5 c5 hb d5
      go_wp2
      go_roundw
      case rel => exact ⟨k + 1, q, by omega, by go_num, rfl, HQK, c6, b6⟩
      case measure => simp [intOf]; omega
    · obtain rfl : k = N := by omega
      have hl := fun w hd => HF.out (p : Int) w hd
      have hll := HL.out
      rw [← HPK.out] at hll
      simp only [hll] at hl
      have HFL := Lib.hid hl
      have hqz := zroS_ok Q
      have hqs := zroS_size Q
      have hpq : payB (zroS Q) = true := (payB_iff _).2 ⟨bits_mk hqz (by rw [hqs]; omega), by rw [hqs]; omega⟩
      have hfr := fun w => iFrame_any (zroS Q) w (by rw [hqs]; omega)
      rw [show frmAns (zroS Q) = (frmS (zroS Q), true) by unfold frmAns; rw [hpq]; rfl] at hfr
      have hfs := frmS_size (zroS Q)
      have HZQ := Lib.hid (fun w => ssZer_any Q w (by omega))
      have HPQ := Lib.hid hpq
      have HY2 := Lib.hid (fun P (hP : payB P = true) => two_frames hP hpq)
      obtain ⟨Z, hZ⟩ : ∃ Z, zroS Q = Z := ⟨_, rfl⟩
      rw [hZ] at hfr hfs HZQ hqs HPQ HY2
      obtain ⟨F, hF⟩ : ∃ F, frmS Z = F := ⟨_, rfl⟩
      rw [hF] at hfr hfs HY2
      have HFR := Lib.hid hfr
      clear hl hll hqz hpq hfr hZ hF
      go_wp2_with fail
      refine (HZQ.out _).mono ?_
      rintro e w5 ⟨rfl, hb⟩
      have b5 := below_then rb (Nat.le_refl _) hb
      have c5 := below_then rc (Nat.le_refl _) hb
      clear rb rc hb
      go_wp2_with fail
      refine (HFR.out _).mono ?_
      rintro e w6 ⟨rfl, hb⟩
      have b6 := below_then b5 (Nat.le_refl _) hb
      have c6 := below_then c5 (Nat.le_refl _) hb
      clear b5 c5 hb
      go_wp2_with fail
      refine (HFL.out _ (HD.out _ b6)).mono ?_
      rintro e w7 ⟨rfl, hb⟩
      have b7 := below_then b6 (Nat.le_refl _) hb
      have c7 := below_then c6 (Nat.le_refl _) hb
      clear b6 c6 hb
      by_cases h6 : 600 < z.size + F.size
      · have i6 : (600 : Int) < (z.size : Int) + (F.size : Int) := by omega
        go_wp2_with fail
        refine (HFL.out _ (HD.out _ b7)).mono ?_
        rintro e w8 ⟨rfl, hb⟩
        have b8 := below_then b7 (Nat.le_refl _) hb
        go_wp2
        go_ret
        exact ⟨rfl, b8⟩
      · have i6 : ¬ (600 : Int) < (z.size : Int) + (F.size : Int) := by omega
        by_cases hk0 : k = 0
        · subst hk0
          go_wp2_with fail
          refine (HFL.out _ (HD.out _ b7)).mono ?_
          rintro e w8 ⟨rfl, hb⟩
          have b8 := below_then b7 (Nat.le_refl _) hb
          go_wp2
          go_ret
          exact ⟨rfl, b8⟩
        · have k0 : ((k : Int) == 0) = false := by rw [beq_eq_false_iff_ne]; omega
          have k1 : (0 : Int) < (k : Int) := by omega
          have kn : 0 < k := by omega
          obtain ⟨g, rfl, _, hgl, hcc⟩ := HOO.out (by omega)
          have d7 := (c7.cell (p := ⟨g, 0, none⟩) hgl).trans (hcc 0 (by omega)).1
          have hpy := HPY.out (by omega)
          obtain ⟨y, hy⟩ : ∃ y, alF z 0 = y := ⟨_, rfl⟩
          rw [hy] at d7 hpy
          obtain ⟨x1, x2, x3, x4⟩ := HY2.out y hpy
          have hys := ((payB_iff _).1 hpy).2
          have hgf := fun w => iFrame_any y w (by omega)
          rw [show frmAns y = (frmS y, true) by unfold frmAns; rw [hpy]; rfl] at hgf
          have hgs := frmS_size y
          have hax := fun w hd => iAll_any (frmS y ++ F) 2 w (by rw [ByteArray.size_append]; omega) ⟨fun _ => x2, fun h => by rw [x1] at h; cases h⟩ hd
          have hfx : ∀ j, j < 2 → alF (frmS y ++ F) j = (fun i => if i = 0 then y else Z) j := fun j hj => by
            have : j = 0 ∨ j = 1 := by omega
            rcases this with rfl | rfl
            · exact x3
            · exact x4
          obtain ⟨G, hG⟩ : ∃ G, frmS y = G := ⟨_, rfl⟩
          rw [hG] at hgf hgs
          simp only [hG] at hax hfx
          have HGF := Lib.hid hgf
          have HAX := Lib.hid hax
          have HFX := Lib.hid hfx
          have HTX := Lib.hid (fun v u w hv hu => ssTexts_same v u 2 (fun i => if i = 0 then y else Z) w hv hu (by omega))
          have hsz : G.size + F.size ≤ 9223372036854775807 := by omega
          clear hpy hy x1 x2 x3 x4 hgf hax hfx hG hcc hk0 h6
          go_wp2_with fail
          refine (HGF.out _).mono ?_
          rintro e wr ⟨rfl, hb⟩
          have rb := below_then b7 (Nat.le_refl _) hb
          have d8 := (hb.cell (p := ⟨g, 0, none⟩) (World.block_lt_of_cell? _ _ d7)).trans d7
          have e0 : wr.drew.cell? ⟨g, 0, none⟩ = some (.string y) := d8
          have hgw : g < wr.drew.heap.size := World.block_lt_of_cell? _ _ e0
          have hsz2 : ¬ (9223372036854775807 < G.size + F.size) := by omega
          clear b7 c7 hb d7 d8 hgs hfs hqs
          go_wp2_with fail
          refine wp_region_held_drew (S := (fun wx => wx.cell? ⟨g, 0, none⟩ = some (.string y))) (by kernel_rfl) e0 (fun hHeld => ?_)
          refine wpAnyH_take (i := 0) (oi := { dst := some 98, op := Go.Op.move (Go.Operand.tmp 15), type := 9, pos := "laws.go:1938", after := #[], guard := none }) (v := ?v0q) rfl (by kernel_rfl) (by kernel_rfl) (by kernel_rfl) (fun _ _ _ h => h) (Or.inl ⟨by rfl, ?hy0q⟩) (by assumption) ?rest0q
          case hy0q => (intro w hSw; (try dsimp only at hSw); go_simp; try with_reducible rfl)
          try simp only [Act.put, List.setIfInBounds_toArray, List.set_cons_zero, List.set_cons_succ]
          refine wpAnyH_take (i := 1) (oi := { dst := some 99, op := Go.Op.move (Go.Operand.tmp 13), type := 9, pos := "laws.go:1938", after := #[], guard := none }) (v := ?v1q) rfl (by kernel_rfl) (by kernel_rfl) (by kernel_rfl) (fun _ _ _ h => h) (Or.inl ⟨by rfl, ?hy1q⟩) (by assumption) ?rest1q
          case hy1q => (intro w hSw; (try dsimp only at hSw); go_simp; try with_reducible rfl)
          try simp only [Act.put, List.setIfInBounds_toArray, List.set_cons_zero, List.set_cons_succ]
          refine wpAnyH_take (i := 2) (oi := { dst := some 100, op := Go.Op.binOp Go.BinOp.add 9 (Go.Operand.tmp 98) (Go.Operand.tmp 99) 9, type := 9, pos := "laws.go:1938", after := #[{ on := 0, ground := Go.Ground.data }, { on := 1, ground := Go.Ground.data }], guard := none }) (v := ?v2q) rfl (by kernel_rfl) (by kernel_rfl) (by kernel_rfl) (fun _ _ _ h => h) (Or.inl ⟨by rfl, ?hy2q⟩) (by assumption) ?rest2q
          case hy2q => (intro w hSw; (try dsimp only at hSw); go_simp; try with_reducible rfl)
          try simp only [Act.put, List.setIfInBounds_toArray, List.set_cons_zero, List.set_cons_succ]
          refine wpAnyH_take (i := 4) (oi := { dst := some 102, op := Go.Op.move (Go.Operand.tmp 6), type := 24, pos := "laws.go:1938", after := #[], guard := none }) (v := ?v4q) rfl (by kernel_rfl) (by kernel_rfl) (by kernel_rfl) (fun _ _ _ h => h) (Or.inl ⟨by rfl, ?hy4q⟩) (by assumption) ?rest4q
          case hy4q => (intro w hSw; (try dsimp only at hSw); go_simp; try with_reducible rfl)
          try simp only [Act.put, List.setIfInBounds_toArray, List.set_cons_zero, List.set_cons_succ]
          refine wpAnyH_take (i := 5) (oi := { dst := some 103, op := Go.Op.indexAddr 24 (Go.Operand.tmp 102) (Go.Operand.const (Go.Value.int Go.IntKind.i64 0)), type := 0, pos := "laws.go:1938", after := #[{ on := 4, ground := Go.Ground.data }], guard := none }) (v := ?v5q) rfl (by kernel_rfl) (by kernel_rfl) (by kernel_rfl) (fun _ _ _ h => h) (Or.inl ⟨by rfl, ?hy5q⟩) (by assumption) ?rest5q
          case hy5q => (intro w hSw; (try dsimp only at hSw); go_simp; try with_reducible rfl)
          try simp only [Act.put, List.setIfInBounds_toArray, List.set_cons_zero, List.set_cons_succ]
          refine wpAnyH_take (i := 6) (oi := { dst := some 104, op := Go.Op.load 9 (Go.Operand.tmp 103), type := 9, pos := "laws.go:1938", after := #[{ on := 5, ground := Go.Ground.data }], guard := none }) (v := ?v6q) rfl (by kernel_rfl) (by kernel_rfl) (by kernel_rfl) (fun _ _ _ h => h) (Or.inl ⟨by rfl, ?hy6q⟩) (by assumption) ?rest6q
          case hy6q => (intro w hSw; (try dsimp only at hSw); go_simp; try with_reducible rfl)
          try simp only [Act.put, List.setIfInBounds_toArray, List.set_cons_zero, List.set_cons_succ]
          refine wpAnyH_take (i := 7) (oi := { dst := some 105, op := Go.Op.move (Go.Operand.tmp 12), type := 9, pos := "laws.go:1938", after := #[], guard := none }) (v := ?v7q) rfl (by kernel_rfl) (by kernel_rfl) (by kernel_rfl) (fun _ _ _ h => h) (Or.inl ⟨by rfl, ?hy7q⟩) (by assumption) ?rest7q
          case hy7q => (intro w hSw; (try dsimp only at hSw); go_simp; try with_reducible rfl)
          try simp only [Act.put, List.setIfInBounds_toArray, List.set_cons_zero, List.set_cons_succ]
          refine wpAnyH_ready (rs := [3, 8]) (by kernel_rfl) (by simp) ?_
          refine AllReadyH.cons (o := { dst := some 101, op := Go.Op.call { callee := Go.Callee.value (Go.Operand.func 13), args := #[Go.Operand.tmp 100], argTypes := #[9] }, type := 24, pos := "laws.go:1938", after := #[{ on := 2, ground := Go.Ground.data }], guard := none }) rfl (fun K hK => ?_) (AllReadyH.cons (o := { dst := some 106, op := Go.Op.buildSlice 24 2 #[(0, Go.Operand.tmp 104), (1, Go.Operand.tmp 105)], type := 24, pos := "laws.go:1938", after := #[{ on := 6, ground := Go.Ground.data }, { on := 7, ground := Go.Ground.data }], guard := none }) rfl (fun K hK => ?_) AllReadyH.nil)
          · go_simp
            go_at_call 13
            refine (HAX.out _ (HD.out _ rb.drew)).mono ?_
            rintro e w5 ⟨v1, rfl, O5, hb5⟩
            have b5 := below_then rb.drew (Nat.le_refl _) hb5
            have kk5 := (hb5.cell (p := ⟨g, 0, none⟩) hgw).trans e0
            refine hK.out _ _ kk5 (fun hHeld => ?_)
            clear hK K hb5
            try simp only [Act.put, List.setIfInBounds_toArray, List.set_cons_zero, List.set_cons_succ]
            refine wpAnyH_ready (rs := [8]) (by kernel_rfl) (by simp) ?_
            refine AllReadyH.cons (o := { dst := some 106, op := Go.Op.buildSlice 24 2 #[(0, Go.Operand.tmp 104), (1, Go.Operand.tmp 105)], type := 24, pos := "laws.go:1938", after := #[{ on := 6, ground := Go.Ground.data }, { on := 7, ground := Go.Ground.data }], guard := none }) rfl (fun K hK => ?_) AllReadyH.nil
            go_simp
            have T6 := SF.twoA w5 y Z
            have O6 := (O5.alloc (.cells #[.string y, .string Z] 9)).congr HFX.out
            have b6 := b5.alloc b5.size (.cells #[.string y, .string Z] 9)
            have kk : (w5.alloc (.cells #[.string y, .string Z] 9)).cell? ⟨g, 0, none⟩ = some (.string y) := (World.cell?_alloc_lt _ _ ⟨g, 0, none⟩ (World.block_lt_of_cell? _ _ kk5)).trans kk5
            refine hK.out _ _ kk (fun hHeld => ?_)
            clear hK K
            try simp only [Act.put, List.setIfInBounds_toArray, List.set_cons_zero, List.set_cons_succ]
            refine wpAnyH_ready (rs := [9]) (by kernel_rfl) (by simp) ?_
            refine AllReadyH.cons (o := { dst := some 107, op := Go.Op.call { callee := Go.Callee.value (Go.Operand.func 25), args := #[Go.Operand.tmp 101, Go.Operand.tmp 106], argTypes := #[24, 24] }, type := 4, pos := "laws.go:1938", after := #[{ on := 3, ground := Go.Ground.data }, { on := 8, ground := Go.Ground.data }, { on := 3, ground := Go.Ground.chain }], guard := none }) rfl (fun K hK => ?_) AllReadyH.nil
            go_simp
            go_at_call 25
            refine (HTX.out _ _ _ O6.strs T6.strs).mono ?_
            rintro e w9 ⟨rfl, m9, rfl⟩
            have b9 := below_drewN b6 m9
            refine hK.out _ _ (show ((w5.alloc (.cells #[.string y, .string Z] 9)).drewN m9).cell? _ = _ from kk) (fun hHeld => ?_)
            clear hK K
            try simp only [Act.put, List.setIfInBounds_toArray, List.set_cons_zero, List.set_cons_succ]
            refine wpAnyH_take (i := 10) (oi := { dst := some 4, op := Go.Op.assign (Go.Operand.tmp 107), type := 4, pos := "laws.go:1938", after := #[{ on := 9, ground := Go.Ground.data }, { on := 9, ground := Go.Ground.chain }, { on := 0, ground := Go.Ground.phase }, { on := 1, ground := Go.Ground.phase }, { on := 2, ground := Go.Ground.phase }, { on := 3, ground := Go.Ground.phase }, { on := 4, ground := Go.Ground.phase }, { on := 5, ground := Go.Ground.phase }, { on := 6, ground := Go.Ground.phase }, { on := 7, ground := Go.Ground.phase }, { on := 8, ground := Go.Ground.phase }, { on := 9, ground := Go.Ground.phase }], guard := none }) (v := ?v10s) rfl (by kernel_rfl) (by kernel_rfl) (by kernel_rfl) (fun _ _ _ h => h) (Or.inl ⟨by rfl, ?hy10s⟩) (by assumption) ?rest10s
            case hy10s => (intro w hSw; (try dsimp only at hSw); go_simp; try with_reducible rfl)
            try simp only [Act.put, List.setIfInBounds_toArray, List.set_cons_zero, List.set_cons_succ]
            refine wpAnyH_done (by kernel_rfl) ?_ _
            go_wp2
            go_ret
            exact ⟨rfl, b9⟩
          · go_simp
            have T5 := SF.twoA wr.drew y Z
            have b5 := rb.drew.alloc rb.size (.cells #[.string y, .string Z] 9)
            have kk5 : (wr.drew.alloc (.cells #[.string y, .string Z] 9)).cell? ⟨g, 0, none⟩ = some (.string y) := (World.cell?_alloc_lt _ _ ⟨g, 0, none⟩ hgw).trans e0
            refine hK.out _ _ kk5 (fun hHeld => ?_)
            clear hK K
            try simp only [Act.put, List.setIfInBounds_toArray, List.set_cons_zero, List.set_cons_succ]
            refine wpAnyH_ready (rs := [3]) (by kernel_rfl) (by simp) ?_
            refine AllReadyH.cons (o := { dst := some 101, op := Go.Op.call { callee := Go.Callee.value (Go.Operand.func 13), args := #[Go.Operand.tmp 100], argTypes := #[9] }, type := 24, pos := "laws.go:1938", after := #[{ on := 2, ground := Go.Ground.data }], guard := none }) rfl (fun K hK => ?_) AllReadyH.nil
            go_simp
            go_at_call 13
            refine (HAX.out _ (HD.out _ b5)).mono ?_
            rintro e w6 ⟨v1, rfl, O6', hb6⟩
            have b6 := below_then b5 (Nat.le_refl _) hb6
            have kk := (hb6.cell (p := ⟨g, 0, none⟩) (World.block_lt_of_cell? _ _ kk5)).trans kk5
            have T6 := T5.below hb6
            have O6 := O6'.congr HFX.out
            refine hK.out _ _ kk (fun hHeld => ?_)
            clear hK K hb6
            try simp only [Act.put, List.setIfInBounds_toArray, List.set_cons_zero, List.set_cons_succ]
            refine wpAnyH_ready (rs := [9]) (by kernel_rfl) (by simp) ?_
            refine AllReadyH.cons (o := { dst := some 107, op := Go.Op.call { callee := Go.Callee.value (Go.Operand.func 25), args := #[Go.Operand.tmp 101, Go.Operand.tmp 106], argTypes := #[24, 24] }, type := 4, pos := "laws.go:1938", after := #[{ on := 3, ground := Go.Ground.data }, { on := 8, ground := Go.Ground.data }, { on := 3, ground := Go.Ground.chain }], guard := none }) rfl (fun K hK => ?_) AllReadyH.nil
            go_simp
            go_at_call 25
            refine (HTX.out _ _ _ O6.strs T6.strs).mono ?_
            rintro e w9 ⟨rfl, m9, rfl⟩
            have b9 := below_drewN b6 m9
            refine hK.out _ _ (show (w6.drewN m9).cell? _ = _ from kk) (fun hHeld => ?_)
            clear hK K
            try simp only [Act.put, List.setIfInBounds_toArray, List.set_cons_zero, List.set_cons_succ]
            refine wpAnyH_take (i := 10) (oi := { dst := some 4, op := Go.Op.assign (Go.Operand.tmp 107), type := 4, pos := "laws.go:1938", after := #[{ on := 9, ground := Go.Ground.data }, { on := 9, ground := Go.Ground.chain }, { on := 0, ground := Go.Ground.phase }, { on := 1, ground := Go.Ground.phase }, { on := 2, ground := Go.Ground.phase }, { on := 3, ground := Go.Ground.phase }, { on := 4, ground := Go.Ground.phase }, { on := 5, ground := Go.Ground.phase }, { on := 6, ground := Go.Ground.phase }, { on := 7, ground := Go.Ground.phase }, { on := 8, ground := Go.Ground.phase }, { on := 9, ground := Go.Ground.phase }], guard := none }) (v := ?v10t) rfl (by kernel_rfl) (by kernel_rfl) (by kernel_rfl) (fun _ _ _ h => h) (Or.inl ⟨by rfl, ?hy10t⟩) (by assumption) ?rest10t
            case hy10t => (intro w hSw; (try dsimp only at hSw); go_simp; try with_reducible rfl)
            try simp only [Act.put, List.setIfInBounds_toArray, List.set_cons_zero, List.set_cons_succ]
            refine wpAnyH_done (by kernel_rfl) ?_ _
            go_wp2
            go_ret
            exact ⟨rfl, b9⟩
end Go.Proofs.YtdafepfjjmdkeaaDoor
