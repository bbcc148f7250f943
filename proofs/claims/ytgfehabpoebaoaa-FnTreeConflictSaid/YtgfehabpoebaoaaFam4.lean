/- Contracts of TreeCode, of both sides. -/
import Derived.Test.YtgfehabpoebaoaaFam3
import Derived.Test.YtgfehabpoebaoaaSeqFun3
namespace Go.Proofs.Ytgfehabpoebaoaa
open Go.RowKit
set_option linter.unusedVariables false
theorem xor_u8 (a b : Nat) (ha : a < 2) (hb : b < 2) : bits .xor .u8 (a : Int) (b : Int) = (((a + b) % 2 : Nat) : Int) := by
  have h1 : a = 0 ∨ a = 1 := by omega
  have h2 : b = 0 ∨ b = 1 := by omega
  rcases h1 with rfl | rfl <;> rcases h2 with rfl | rfl <;> rfl
/-- The bit of the code of the first bits of a path. -/
def codeF (p : ByteArray) : Nat → Nat → Nat
  | 0, _ => 0
  | j + 1, k => if k < tw j then codeF p j k else (codeF p j (k - tw j) + (zb p j - 48)) % 2
theorem codeF_lt (p : ByteArray) : ∀ j k, codeF p j k < 2
  | 0, _ => by simp [codeF]
  | j + 1, k => by
    simp only [codeF]
    split
    · exact codeF_lt p j k
    · omega
def treeS (p : ByteArray) (j : Nat) : ByteArray := strF (tw j) (fun k => 48 + codeF p j k)
theorem treeS_size (p : ByteArray) (j : Nat) : (treeS p j).size = tw j := strF_size _ _
theorem zb_treeS (p : ByteArray) (j i : Nat) (h : i < tw j) : zb (treeS p j) i = 48 + codeF p j i := zb_strF h (by have := codeF_lt p j i; omega)
theorem treeS_zero (p : ByteArray) : treeS p 0 = ⟨#[48]⟩ := rfl
theorem treeS_seq (p : ByteArray) (j : Nat) (h : j ≤ 6) : seqB (treeS p j) = true := by
  have h1 := tw_pos j
  have h2 := tw_6 j h
  refine (seqB_iff _).2 ⟨okB_of_zb _ fun i hi => ?_, by rw [treeS_size]; exact h1, by rw [treeS_size]; omega⟩
  rw [treeS_size] at hi
  rw [zb_treeS p j i hi]
  have := codeF_lt p j i
  omega
theorem treeS_same (p : ByteArray) (j : Nat) (h : zb p j = 48) : treeS p j ++ treeS p j = treeS p (j + 1) := by
  apply strF_of
  · rw [ByteArray.size_append, treeS_size, tw_succ]; omega
  · intro i hi
    rw [tw_succ] at hi
    simp only [codeF]
    by_cases hl : i < tw j
    · rw [zb_append_left _ _ _ (by rw [treeS_size]; exact hl), zb_treeS p j i hl, if_pos hl]
    · rw [zb_append_right _ _ _ (by rw [treeS_size]; omega) (by rw [treeS_size]; omega), treeS_size, zb_treeS p j _ (by omega), if_neg hl, h]
      have := codeF_lt p j (i - tw j)
      omega
theorem treeS_turn (p : ByteArray) (j : Nat) (h : zb p j = 49) : treeS p j ++ invS (treeS p j) = treeS p (j + 1) := by
  apply strF_of
  · rw [ByteArray.size_append, invS_size, treeS_size, tw_succ]; omega
  · intro i hi
    rw [tw_succ] at hi
    simp only [codeF]
    by_cases hl : i < tw j
    · rw [zb_append_left _ _ _ (by rw [treeS_size]; exact hl), zb_treeS p j i hl, if_pos hl]
    · rw [zb_append_right _ _ _ (by rw [treeS_size]; omega) (by rw [invS_size, treeS_size]; omega), treeS_size, zb_invS _ _ (by rw [treeS_size]; omega), zb_treeS p j _ (by omega), if_neg hl, h]
      have := codeF_lt p j (i - tw j)
      omega
def treeAns (p : ByteArray) : ByteArray × Bool := if pathB p then (treeS p p.size, true) else noS
set_option maxRecDepth 100000 in
theorem l3Tree_any (p : ByteArray) (w : World) (h : pathB p = true) :
    Calls Try.prog 53 #[.string p] w fun e w' => e = .returned (.string (treeS p p.size)) ∧ Below w.heap.size w w' := by
  obtain ⟨h1, h2⟩ := (pathB_iff p).1 h
  have HO := Lib.hid (okB_zb p h1)
  have HI := Lib.hid (fun (j : Nat) w (hj : j ≤ 6) => l2Invert_any (treeS p j) w (treeS_seq p j hj))
  clear h1 h
  go_enter Try.func53, Try.ntmps53
  go_wp2
  go_loopw [3, 4] (fun s i wr => ∃ j : Nat, j ≤ p.size ∧ i = .int .i64 j ∧ s = .string (treeS p j) ∧ Below w.heap.size w wr) (fun _ i _ => p.size - (intOf i).toNat)
  case atStart => exact ⟨0, by omega, rfl, by rw [treeS_zero], Below.refl _ _⟩
  case round =>
    obtain ⟨j, hj, rfl, rfl, rb⟩ := hrel
    by_cases hlt : j < p.size
    · have hbit := HO.out j hlt
      have hz := treeS_size p j
      have ht := tw_6 j (by omega)
      have hI := fun w => HI.out j w (by omega)
      have HS := Lib.hid (treeS_same p j)
      have HT := Lib.hid (treeS_turn p j)
      have hz2 := invS_size (treeS p j)
      obtain ⟨S, hS⟩ : ∃ S, treeS p j = S := ⟨_, rfl⟩
      rw [hS] at hz hI HS HT hz2 ⊢
      rw [hz] at hz2
      obtain ⟨V, hV⟩ : ∃ V, invS S = V := ⟨_, rfl⟩
      rw [hV] at hI HT hz2
      have i0 : (0 : Int) ≤ (j : Int) := by omega
      have i1 : (j : Int) < (p.size : Int) := by omega
      clear hS hV
      by_cases hb : zb p j = 48
      · have HF := Lib.hid (HS.out hb)
        have e1 : (((p[j].toNat : Nat) : Int) == 48) = true := by rw [zb_at p j hlt, hb]; rfl
        clear hbit hb hI hz2 HS HT
        go_wp2
        go_roundw
        case rel => exact ⟨j + 1, by omega, by go_num, by rw [HF.out], rb⟩
        case measure => simp [intOf]; omega
      · have HF := Lib.hid (HT.out (by omega))
        have e1 : (((p[j].toNat : Nat) : Int) == 48) = false := by rw [zb_at p j hlt]; simp; omega
        clear hbit hb HS HT
        go_wp2_with fail
        refine (hI _).mono ?_
        rintro e w1 ⟨rfl, hb⟩
        have b1 := below_then rb (Nat.le_refl _) hb
        clear hb rb hI
        go_wp2
        go_roundw
        case rel => exact ⟨j + 1, by omega, by go_num, by rw [HF.out], b1⟩
        case measure => simp [intOf]; omega
    · obtain rfl : j = p.size := by omega
      go_wp2
      go_ret
      exact ⟨rfl, rb⟩
set_option maxRecDepth 100000 in
theorem sTree_any (p : ByteArray) (w : World) (hp : p.size ≤ 9223372036854775807) :
    Calls Try.prog 21 #[.string p] w fun e w' => e = .returned (.tuple #[.string (treeAns p).1, .bool (treeAns p).2]) ∧ Below w.heap.size w w' := by
  have hP := fun w => l3Path_any p w hp
  cases h : pathB p with
  | false =>
    rw [show treeAns p = noS by unfold treeAns; rw [h]; rfl]
    rw [h] at hP
    go_enter Try.func21, Try.ntmps21
    go_wp2_with fail
    refine (hP _).mono ?_
    rintro e w' ⟨rfl, rfl⟩
    go_wp2
    go_ret2
    exact ⟨rfl, Below.refl _ _⟩
  | true =>
    rw [show treeAns p = (treeS p p.size, true) by unfold treeAns; rw [h]; rfl]
    have hT := fun w => l3Tree_any p w h
    rw [h] at hP
    clear h
    go_enter Try.func21, Try.ntmps21
    go_wp2_with fail
    refine (hP _).mono ?_
    rintro e w' ⟨rfl, rfl⟩
    go_wp2_with fail
    refine (hT _).mono ?_
    rintro e w' ⟨rfl, hb⟩
    go_wp2
    go_ret2
    exact ⟨rfl, hb⟩
/-- The elements of a text. -/
def eltF (z : ByteArray) (v : Nat) : Nat := if v < z.size then (if zb z v = 49 then 1 else 0) else 0
theorem eltF_lt (z : ByteArray) (v : Nat) : eltF z v < 2 := by unfold eltF; split; split <;> omega; omega
set_option maxRecDepth 100000 in
theorem wordOf_any (z : ByteArray) (w : World) (hz : z.size ≤ 64) :
    Calls Try.prog 50 #[.string z] w fun e w' => e = .returned (.agg (wordA (eltF z))) ∧ Below w.heap.size w w' := by
  go_enter Try.func50, Try.ntmps50
  go_wp2
  go_loopw [7] (fun j wr => ∃ k : Nat, k ≤ z.size ∧ j = .int .i64 k ∧ Bytes wr (w.heap.size + 1) 57 64 (fun v => if v < k then eltF z v else 0) ∧ Bytes wr w.heap.size 57 64 (fun _ => 0) ∧ Below w.heap.size w wr) (fun j _ => z.size - (intOf j).toNat)
  case atStart =>
    exact ⟨0, by omega, rfl, Bytes.congr (Bytes.zero _ (by kernel_rfl) (by simp)) (fun v _ => by simp), World.rowIs.alloc (Bytes.zero _ (by kernel_rfl) rfl) _, ((Below.refl _ _).alloc (Nat.le_refl _) _).alloc (by simp) _⟩
  case round =>
    obtain ⟨k, hk, rfl, rB, rZ, rb⟩ := hrel
    by_cases hlt : k < z.size
    · have hc := rB.cell k (by omega)
      have hf := World.rowIs.frozen rB k
      have i0 : (0 : Int) ≤ (k : Int) := by omega
      have i1 : (k : Int) < (z.size : Int) := by omega
      have i2 : (k : Int) < 64 := by omega
      by_cases hb : zb z k = 49
      · have hd : eltF z k = 1 := by unfold eltF; rw [if_pos hlt, if_pos hb]
        have e1 : (((z[k].toNat : Nat) : Int) == 49) = true := by rw [zb_at z k hlt, hb]; rfl
        have nB : Hid (Bytes (wr.setCell ⟨w.heap.size + 1, k, none⟩ (.int .u8 1)) (w.heap.size + 1) 57 64 (fun v => if v < k + 1 then eltF z v else 0)) :=
          row_step (V := 1) (F := fun v => eltF z v) rB hd
        have nZ : Hid (Bytes (wr.setCell ⟨w.heap.size + 1, k, none⟩ (.int .u8 1)) w.heap.size 57 64 (fun _ => 0)) := Lib.hid (World.rowIs.setOther rZ (by simp) _)
        have nb : Hid (Below w.heap.size w (wr.setCell ⟨w.heap.size + 1, k, none⟩ (.int .u8 1))) := Lib.hid (bytes_below rb (by omega) _ _)
        clear hd rB rZ rb hb
        go_wp2
        go_roundw
        case rel => exact ⟨k + 1, by omega, by go_num, nB.out, nZ.out, nb.out⟩
        case measure => simp [intOf]; omega
      · have hd : eltF z k = 0 := by unfold eltF; rw [if_pos hlt, if_neg hb]
        have e1 : (((z[k].toNat : Nat) : Int) == 49) = false := by rw [zb_at z k hlt]; simp; omega
        have nB : Hid (Bytes wr (w.heap.size + 1) 57 64 (fun v => if v < k + 1 then eltF z v else 0)) := Lib.hid (Bytes.congr rB fun v _ => by
          by_cases e : v = k
          · subst e; rw [if_neg (Nat.lt_irrefl _), if_pos (by omega), hd]
          · by_cases e' : v < k
            · rw [if_pos e', if_pos (by omega)]
            · rw [if_neg e', if_neg (by omega)])
        clear hd rB hb
        go_wp2
        go_roundw
        case rel => exact ⟨k + 1, by omega, by go_num, nB.out, rZ, rb⟩
        case measure => simp [intOf]; omega
    · obtain rfl : k = z.size := by omega
      have rB' : Bytes wr (w.heap.size + 1) 57 64 (eltF z) := Bytes.congr rB fun v _ => by
        by_cases e' : v < z.size
        · rw [if_pos e']
        · rw [if_neg e']; unfold eltF; rw [if_neg e']
      have g1 := Bytes.row rB'
      have g2 := Bytes.row rZ
      have s1 := word_size' (eltF z)
      obtain ⟨F, hF⟩ : ∃ F : Nat → Nat, eltF z = F := ⟨_, rfl⟩
      rw [hF] at g1 s1
      have HF := Lib.hid hF
      have z1 := wordA_size (fun _ => 0)
      obtain ⟨A, hA⟩ : ∃ A, wordA F = A := ⟨_, rfl⟩
      obtain ⟨Z, hZ⟩ : ∃ Z, wordA (fun _ => 0) = Z := ⟨_, rfl⟩
      rw [hA] at g1 s1
      rw [hZ] at g2 z1
      have HA := Lib.hid hA
      clear hA hZ hF rB rB' rZ
      go_wp2_with (first | (refine wpList_load_row rfl 57 _ rfl (w.heap.size + 1) rfl 57 A (0, 0) _ g1 Try.underlying57 rfl s1 ?_) | (refine wpList_store_word rfl 57 _ _ rfl w.heap.size F A HA.out.symm rfl rfl 57 Z g2 word_size z1 ?_; intro W hbel hW))
      have r3 := Bytes.row hW
      rw [HA.out] at r3
      refine bodyPost_ret (results_cell_row Try.results50 _ _ w.heap.size 57 A (0, 0) _ rfl r3 Try.underlying57 rfl s1) rfl ⟨ret_agg (by rw [HF.out, HA.out]), hbel _ _ rb (Nat.le_refl _)⟩
set_option maxRecDepth 100000 in
theorem word_len : Try.prog.arrayLen 57 = 64 := by kernel_rfl
set_option maxRecDepth 100000 in
theorem slice_word (g n : Nat) (w : World) (h : n ≤ 64) :
    (Instr.sliceAt 57 (.pointer (some ⟨g, 0, none⟩)) none (some (.int .i64 (n : Int))) none).run Try.prog w = .ok (.slice (some ⟨g, 0, none⟩) n 64) w := by
  have hs : ∀ w, (sizeOf (Try.prog.elem 57)).run Try.prog w = .ok 1 w := fun _ => by kernel_rfl
  rw [run_sliceAt_array_h w 57 _ (by kernel_rfl) .i64 n (by omega) (by rw [word_len]; omega), word_len, hs]
  simp [Result.andThen, slicedAt, Addr.add]
set_option maxHeartbeats 1600000 in
set_option maxRecDepth 100000 in
theorem iTree_any (p : ByteArray) (w : World) (hp : p.size ≤ 9223372036854775807) :
    Calls Try.prog 20 #[.string p] w fun e w' => e = .returned (.tuple #[.string (treeAns p).1, .bool (treeAns p).2]) ∧ Below w.heap.size w w' := by
  have hP := fun w => pathValid_any p w hp
  cases h : pathB p with
  | false =>
    rw [show treeAns p = noS by unfold treeAns; rw [h]; rfl]
    rw [h] at hP
    go_enter Try.func20, Try.ntmps20
    go_wp2_with fail
    refine (hP _).mono ?_
    rintro e w' ⟨rfl, rfl⟩
    go_wp2
    go_ret2
    exact ⟨rfl, Below.refl _ _⟩
  | true =>
    rw [show treeAns p = (treeS p p.size, true) by unfold treeAns; rw [h]; rfl]
    obtain ⟨h1, h2⟩ := (pathB_iff p).1 h
    rw [h] at hP
    have HO := Lib.hid (okB_zb p h1)
    have hW := fun w => wordOf_any p w (by omega)
    have HE : Hid (∀ j, j < p.size → eltF p j = zb p j - 48) := Lib.hid (fun j hj => by
      have := HO.out j hj
      unfold eltF
      rw [if_pos hj]
      split <;> omega)
    have HE2 := Lib.hid (eltF_lt p)
    obtain ⟨F, hF⟩ : ∃ F : Nat → Nat, eltF p = F := ⟨_, rfl⟩
    rw [hF] at hW HE HE2
    obtain ⟨A, hA⟩ : ∃ A, wordA F = A := ⟨_, rfl⟩
    rw [hA] at hW
    have HA := Lib.hid hA
    have HZ : Hid ((Array.replicate 64 (.int .u8 0) : Array Value) = wordA (fun _ => 0)) := Lib.hid (by kernel_rfl)
    have HX := Lib.hid (fun (g : Nat) w hB => text_any g (tw p.size) (fun v => if v < tw p.size then codeF p p.size v else 0) w hB (fun v => by split; exact codeF_lt _ _ _; omega) (tw_6 _ h2))
    have hsl := fun (g : Nat) w => slice_word g p.size w (by omega)
    clear hF hA h1 h
    go_enter Try.func20, Try.ntmps20
    go_wp2_with fail
    refine (hP _).mono ?_
    rintro e w' ⟨rfl, rfl⟩
    go_wp2_with fail
    refine (hW _).mono ?_
    rintro e w1 ⟨rfl, hb⟩
    clear hW hP
    go_wp2_with (first | (refine wpList_store_word rfl 57 _ _ rfl w1.heap.size F A HA.out.symm rfl rfl 57 _ (heap_alloc_new w1 _) word_size ?_ ?_; kernel_rfl; intro W hbel hT; have b2 := hbel _ _ (hb.alloc hb.size _) hb.size; have hgl := hT.lt) | (refine wpList_store_word rfl 57 _ _ rfl W.heap.size (fun _ => 0) (Array.replicate 64 (.int .u8 0)) HZ.out rfl rfl 57 _ (heap_alloc_new W _) word_size ?_ ?_; kernel_rfl; intro W2 hbel2 hC))
    have hT2 := Bytes.below hT (hbel2 _ _ ((Below.refl _ W).alloc (Nat.le_refl _) _) (Nat.le_refl _)) hgl
    have b3 := hbel2 _ _ (b2.alloc b2.size _) b2.size
    have q1 := hb.size
    have q2 := b2.size
    obtain ⟨g5, hg5⟩ : ∃ g5, W.heap.size = g5 := ⟨_, rfl⟩
    obtain ⟨g4, hg4⟩ : ∃ g4, w1.heap.size = g4 := ⟨_, rfl⟩
    rw [hg5] at hC hgl q2
    rw [hg4] at hT2 hgl q1
    rw [hg4, hg5]
    clear hbel hbel2 hT b2 hb hg5 hg4 hsl
    go_loopw [6, 20] (fun l i wr => ∃ j : Nat, j ≤ p.size ∧ l = .int .i64 (tw j : Nat) ∧ i = .int .i64 j ∧ Bytes wr g5 57 64 (fun v => if v < tw j then codeF p j v else 0) ∧ Bytes wr g4 57 64 F ∧ Below w.heap.size w wr) (fun _ i _ => p.size - (intOf i).toNat)
    case atStart => exact ⟨0, by omega, rfl, rfl, Bytes.congr hC (fun v _ => by simp [codeF]), hT2, b3⟩
    case round =>
      clear hC hT2 b3
      obtain ⟨j, hj, rfl, rfl, rC, rT, rb⟩ := hrel
      by_cases hlt : j < p.size
      · have c1 := rT.cell j (by omega)
        have hB := HE2.out j
        have hFj := HE.out j hlt
        obtain ⟨B, hBB⟩ : ∃ B, F j = B := ⟨_, rfl⟩
        rw [hBB] at c1 hB hFj
        have i0 : (0 : Int) ≤ (j : Int) := by omega
        have i1 : (j : Int) < (p.size : Int) := by omega
        have t1 := tw_6 (j + 1) (by omega)
        have t2 := tw_succ j
        have t3 := tw_pos j
        have hN : ∀ v, codeF p (j + 1) v = if v < tw j then codeF p j v else (codeF p j (v - tw j) + B) % 2 := fun v => by simp only [codeF]; rw [hFj]
        have HN := Lib.hid hN
        have hlo := codeF_lt p j
        obtain ⟨L, hL⟩ : ∃ L, tw j = L := ⟨_, rfl⟩
        rw [hL] at rC HN t2 t3 ⊢
        rw [t2] at t1
        have HT2 := Lib.hid t2
        have HLO := Lib.hid hlo
        clear hN hFj hBB t2 hlo hL
        go_wp2_with fail
        go_loopw [25] (fun i wr => ∃ k : Nat, k ≤ L ∧ i = .int .i64 k ∧ Bytes wr g5 57 64 (fun v => if v < L + k then codeF p (j + 1) v else 0) ∧ Bytes wr g4 57 64 F ∧ Below w.heap.size w wr) (fun i _ => L - (intOf i).toNat)
        case atStart =>
          refine ⟨0, by omega, rfl, Bytes.congr rC (fun v _ => ?_), rT, rb⟩
          rw [Nat.add_zero]
          by_cases e : v < L
          · rw [if_pos e, if_pos e, HN.out v, if_pos e]
          · rw [if_neg e, if_neg e]
        case round =>
          clear rC rT rb c1
          obtain ⟨k, hk, rfl, rC, rT, rb⟩ := hrel
          by_cases hkl : k < L
          · have d1 := rC.cell k (by omega)
            rw [if_pos (by omega), HN.out k, if_pos hkl] at d1
            have hX2 := HLO.out k
            obtain ⟨M, hM⟩ : ∃ M, L + k = M := ⟨_, rfl⟩
            have hY : codeF p (j + 1) M = (codeF p j k + B) % 2 := by rw [HN.out M, if_neg (by omega), show M - L = k by omega]
            obtain ⟨X, hX⟩ : ∃ X, codeF p j k = X := ⟨_, rfl⟩
            rw [hX] at d1 hX2 hY
            have hx := xor_u8 X B hX2 hB
            obtain ⟨Y, hYY⟩ : ∃ Y, (X + B) % 2 = Y := ⟨_, rfl⟩
            rw [hYY] at hx hY
            have m1 : (L : Int) + (k : Int) = (M : Int) := by omega
            have hc := rC.cell M (by omega)
            have hf := World.rowIs.frozen rC M
            have k0 : (0 : Int) ≤ (k : Int) := by omega
            have k1 : (k : Int) < (L : Int) := by omega
            have k2 : (k : Int) < 64 := by omega
            have M0 : (0 : Int) ≤ (M : Int) := by omega
            have M1 : (M : Int) < 64 := by omega
            rw [hM] at rC
            have nC : Hid (Bytes (wr.setCell ⟨g5, M, none⟩ (.int .u8 (Y : Nat))) g5 57 64 (fun v => if v < M + 1 then codeF p (j + 1) v else 0)) :=
              Lib.hid (row_step (F := fun v => codeF p (j + 1) v) rC hY)
            have nT : Hid (Bytes (wr.setCell ⟨g5, M, none⟩ (.int .u8 (Y : Nat))) g4 57 64 F) := Lib.hid (World.rowIs.setOther rT (by show g4 ≠ g5; omega) _)
            have nb : Hid (Below w.heap.size w (wr.setCell ⟨g5, M, none⟩ (.int .u8 (Y : Nat)))) := Lib.hid (bytes_below rb q2 _ _)
            have HM := Lib.hid hM
            clear hX hYY hY rC rT rb hM
            go_wp2
            clear hx
            go_roundw
            case rel => exact ⟨k + 1, by omega, by go_num, by rw [show L + (k + 1) = M + 1 by have := HM.out; omega]; exact nC.out, nT.out, nb.out⟩
            case measure => simp [intOf]; omega
          · obtain rfl : k = L := by omega
            have nC : Hid (Bytes wr g5 57 64 (fun v => if v < tw (j + 1) then codeF p (j + 1) v else 0)) := Lib.hid (Bytes.congr rC (fun v _ => by rw [HT2.out, Nat.two_mul]))
            clear rC
            go_wp2
            go_roundw
            case rel => exact ⟨j + 1, by omega, by rw [HT2.out]; first | go_num | (congr 1; omega), by go_num, nC.out, rT, rb⟩
            case measure => simp [intOf]; omega
      · obtain rfl : j = p.size := by omega
        have HS : Hid (strF (tw p.size) (fun k => 48 + if k < tw p.size then codeF p p.size k else 0) = treeS p p.size) := Lib.hid (strF_congr fun v hv => by rw [if_pos hv])
        have hX := fun w hB => HX.out g5 w hB
        obtain ⟨T, hT⟩ : ∃ T, tw p.size = T := ⟨_, rfl⟩
        rw [hT] at hX rC HS ⊢
        have hX' := hX _ rC
        have HXX := Lib.hid hX'
        clear hX hX' rC hT HX
        go_wp2_with fail
        refine HXX.out.mono ?_
        rintro e w2 ⟨rfl, hb2⟩
        have b4 := below_then rb (Nat.le_refl _) hb2
        go_wp2
        go_ret2
        exact ⟨by rw [← HS.out]; rfl, b4⟩
end Go.Proofs.Ytgfehabpoebaoaa
