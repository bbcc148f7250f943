/- The model's block, and its value. -/
import Derived.Test.YtabokoodpobnnaaDoorChk
import Derived.Test.YtabokoodpobnnaaDoorFrm16
import Derived.BigQuiet
namespace Go.Proofs.YtabokoodpobnnaaDoor
open Go.RowKit
set_option linter.unusedVariables false
set_option maxRecDepth 100000
theorem ck_val {B : ByteArray} {a b c : Nat} (ha : zb B (a - 1) = 48 ∨ zb B (a - 1) = 49) (hb : zb B (b - 1) = 48 ∨ zb B (b - 1) = 49) (hc : zb B (c - 1) = 48 ∨ zb B (c - 1) = 49) :
    48 + ckF B (fun i => if i = 0 then a else if i = 1 then b else c) 3 = ck3 (zb B (a - 1)) (zb B (b - 1)) (zb B (c - 1)) := by
  simp only [ckF, ck3]
  rcases ha with ha | ha <;> rcases hb with hb | hb <;> rcases hc with hc | hc <;> simp [ha, hb, hc]
theorem zb_one (c i : Nat) (hi : i = 0) (h : c < 256) : zb (strF 1 (fun _ => c)) i = c := zb_strF (f := fun _ => c) (by omega) h
theorem blk_val {z : ByteArray} (h4 : z.size = 4) (ho : okB z z.size = true) :
    strF 1 (fun _ => 48 + ckF ((((⟨#[48, 48]⟩ : ByteArray) ++ z.extract 0 1) ++ ⟨#[48]⟩) ++ z.extract 1 4) (fun i => if i = 0 then 3 else if i = 1 then 5 else 7) 3) ++ strF 1 (fun _ => 48 + ckF ((((⟨#[48, 48]⟩ : ByteArray) ++ z.extract 0 1) ++ ⟨#[48]⟩) ++ z.extract 1 4) (fun i => if i = 0 then 3 else if i = 1 then 6 else 7) 3) ++ z.extract 0 1 ++ strF 1 (fun _ => 48 + ckF ((((⟨#[48, 48]⟩ : ByteArray) ++ z.extract 0 1) ++ ⟨#[48]⟩) ++ z.extract 1 4) (fun i => if i = 0 then 5 else if i = 1 then 6 else 7) 3) ++ z.extract 1 4 = strF 7 (blkV (zb z)) := by
  have s1 := size_extract z 0 1 (by omega)
  have s2 := size_extract z 1 4 (by omega)
  have hbit : ∀ i, i < 4 → zb z i = 48 ∨ zb z i = 49 := fun i hi => okB_zb z ho i (by omega)
  obtain ⟨B, hB⟩ : ∃ B, (((⟨#[48, 48]⟩ : ByteArray) ++ z.extract 0 1) ++ ⟨#[48]⟩) ++ z.extract 1 4 = B := ⟨_, rfl⟩
  have e1 : (⟨#[48, 48]⟩ : ByteArray).size = 2 := rfl
  have e2 : (⟨#[48]⟩ : ByteArray).size = 1 := rfl
  have b2 : zb B 2 = zb z 0 := by
    rw [← hB, zb_append_left _ _ _ (by simp only [ByteArray.size_append, s1, e1, e2]; omega), zb_append_left _ _ _ (by simp only [ByteArray.size_append, s1, e1]; omega), zb_append_right _ _ _ (by rw [e1]; omega) (by rw [e1, s1]; omega), e1, zb_extract _ _ _ _ (by omega) (by omega)]
  have b4 : ∀ k, k < 3 → zb B (4 + k) = zb z (1 + k) := fun k hk => by
    rw [← hB, zb_append_right _ _ _ (by simp only [ByteArray.size_append, s1, e1, e2]; omega) (by simp only [ByteArray.size_append, s1, s2, e1, e2]; omega), zb_extract _ _ _ _ (by omega) (by simp only [ByteArray.size_append, s1, e1, e2]; omega)]
    congr 1; simp only [ByteArray.size_append, s1, e1, e2]; omega
  have c4 := b4 0 (by omega)
  have c5 := b4 1 (by omega)
  have c6 := b4 2 (by omega)
  simp only [Nat.reduceAdd] at c4 c5 c6
  have k1 := ck_val (B := B) (a := 3) (b := 5) (c := 7) (by simp only [Nat.reduceSub]; rw [b2]; exact hbit 0 (by omega)) (by simp only [Nat.reduceSub]; rw [c4]; exact hbit 1 (by omega)) (by simp only [Nat.reduceSub]; rw [c6]; exact hbit 3 (by omega))
  have k2 := ck_val (B := B) (a := 3) (b := 6) (c := 7) (by simp only [Nat.reduceSub]; rw [b2]; exact hbit 0 (by omega)) (by simp only [Nat.reduceSub]; rw [c5]; exact hbit 2 (by omega)) (by simp only [Nat.reduceSub]; rw [c6]; exact hbit 3 (by omega))
  have k3 := ck_val (B := B) (a := 5) (b := 6) (c := 7) (by simp only [Nat.reduceSub]; rw [c4]; exact hbit 1 (by omega)) (by simp only [Nat.reduceSub]; rw [c5]; exact hbit 2 (by omega)) (by simp only [Nat.reduceSub]; rw [c6]; exact hbit 3 (by omega))
  simp only [Nat.reduceSub] at k1 k2 k3
  rw [b2, c4, c6] at k1
  rw [b2, c5, c6] at k2
  rw [c4, c5, c6] at k3
  rw [hB, k1, k2, k3]
  have hlt : ∀ a b c : Nat, ck3 a b c < 256 := fun a b c => by rcases ck3_bit a b c with h | h <;> rw [h] <;> omega
  apply strF_of
  · simp only [ByteArray.size_append, strF_size, s1, s2]
  · intro i hi
    have h7 : i = 0 ∨ i = 1 ∨ i = 2 ∨ i = 3 ∨ i = 4 ∨ i = 5 ∨ i = 6 := by omega
    rcases h7 with rfl | rfl | rfl | rfl | rfl | rfl | rfl
    · rw [zb_append_left _ _ _ (by simp only [ByteArray.size_append, strF_size, s1]; omega), zb_append_left _ _ _ (by simp only [ByteArray.size_append, strF_size, s1]; omega), zb_append_left _ _ _ (by simp only [ByteArray.size_append, strF_size]; omega), zb_append_left _ _ _ (by rw [strF_size]; omega), zb_one _ _ rfl (hlt _ _ _)]; rfl
    · rw [zb_append_left _ _ _ (by simp only [ByteArray.size_append, strF_size, s1]; omega), zb_append_left _ _ _ (by simp only [ByteArray.size_append, strF_size, s1]; omega), zb_append_left _ _ _ (by simp only [ByteArray.size_append, strF_size]; omega), zb_append_right _ _ _ (by rw [strF_size]; omega) (by simp only [strF_size]; omega), strF_size, zb_one _ _ rfl (hlt _ _ _)]; rfl
    · rw [zb_append_left _ _ _ (by simp only [ByteArray.size_append, strF_size, s1]; omega), zb_append_left _ _ _ (by simp only [ByteArray.size_append, strF_size, s1]; omega), zb_append_right _ _ _ (by simp only [ByteArray.size_append, strF_size]; omega) (by simp only [ByteArray.size_append, strF_size, s1]; omega), zb_extract _ _ _ _ (by omega) (by simp only [ByteArray.size_append, strF_size]; omega)]; simp [ByteArray.size_append, strF_size, blkV]
    · rw [zb_append_left _ _ _ (by simp only [ByteArray.size_append, strF_size, s1]; omega), zb_append_right _ _ _ (by simp only [ByteArray.size_append, strF_size, s1]; omega) (by simp only [ByteArray.size_append, strF_size, s1]; omega), zb_one _ _ (by simp only [ByteArray.size_append, strF_size, s1]) (hlt _ _ _)]; rfl
    all_goals
      rw [zb_append_right _ _ _ (by simp only [ByteArray.size_append, strF_size, s1]; omega) (by simp only [ByteArray.size_append, strF_size, s1, s2]; omega), zb_extract _ _ _ _ (by omega) (by simp only [ByteArray.size_append, strF_size, s1]; omega)]
      simp [ByteArray.size_append, strF_size, s1, blkV]
set_option maxHeartbeats 1600000 in
theorem l6Block_val (z : ByteArray) (w : World) (ho : okB z z.size = true) (h4 : z.size = 4) :
    Calls Tryd.prog 60 #[.string z] w fun e w' => e = .returned (.string (strF 7 (blkV (zb z)))) ∧ Below w.heap.size w w' := by
  have s1 := size_extract z 0 1 (by omega)
  have s2 := size_extract z 1 4 (by omega)
  have o1 := okCut ho 0 1 (by omega)
  have o2 := okCut ho 1 4 (by omega)
  have hval := blk_val h4 ho
  obtain ⟨A, hA⟩ : ∃ A, z.extract 0 1 = A := ⟨_, rfl⟩
  obtain ⟨D, hD⟩ : ∃ A, z.extract 1 4 = A := ⟨_, rfl⟩
  rw [hA, hD] at hval
  rw [hA] at s1 o1
  rw [hD] at s2 o2
  have oB : okB ((((⟨#[48, 48]⟩ : ByteArray) ++ A) ++ ⟨#[48]⟩) ++ D) ((((⟨#[48, 48]⟩ : ByteArray) ++ A) ++ ⟨#[48]⟩) ++ D).size = true := okApp (okApp (okApp (by decide) o1) (by decide)) o2
  have sB : ((((⟨#[48, 48]⟩ : ByteArray) ++ A) ++ ⟨#[48]⟩) ++ D).size = 7 := by
    rw [ByteArray.size_append, ByteArray.size_append, ByteArray.size_append, s1, s2]; rfl
  obtain ⟨B, hB⟩ : ∃ B, (((⟨#[48, 48]⟩ : ByteArray) ++ A) ++ ⟨#[48]⟩) ++ D = B := ⟨_, rfl⟩
  rw [hB] at oB sB hval
  have HVL := Lib.hid hval
  have HC := Lib.hid (fun (a b c : Nat) (W : World) (t : TypeId) (h : (1 ≤ a ∧ a ≤ 7) ∧ (1 ≤ b ∧ b ≤ 7) ∧ 1 ≤ c ∧ c ≤ 7) => l6Check_any B W.heap.size (fun i => if i = 0 then a else if i = 1 then b else c) (W.alloc (.cells #[.int .i64 a, .int .i64 b, .int .i64 c] t)) (three_cells W t a b c) (fun i hi => by
    rw [sB]
    by_cases e0 : i = 0
    · subst e0; exact h.1
    · by_cases e1 : i = 1
      · subst e1; exact h.2.1
      · simp only [if_neg e0, if_neg e1]; exact h.2.2) oB (by omega))
  have hl := fun p => ckF_lt B p 3
  have HL := Lib.hid hl
  have x1 : A.size = 1 := by omega
  have x2 : D.size = 3 := by omega
  have O1 := Lib.hid o1
  have O2 := Lib.hid o2
  clear s1 s2 o1 o2 oB sB ho hl hval
  go_enter Tryd.func60, Tryd.ntmps60
  go_wp2_with fail
  go_quiet (fail)
  have b1 := below_drewN (Below.refl w.heap.size w) nq
  obtain ⟨W1, hW1⟩ : ∃ W, w.drewN nq = W := ⟨_, rfl⟩
  rw [hW1] at b1 ⊢
  clear hW1
  go_wp2_with fail
  refine (HC.out 3 5 7 _ _ (by omega)).mono ?_
  rintro e w2 ⟨rfl, hb2⟩
  have b2 := below_then (b1.alloc b1.size _) (Nat.le_refl _) hb2
  obtain ⟨Y2, hY2⟩ : ∃ Y, strF 1 (fun _ => 48 + ckF B (fun i => if i = 0 then 3 else if i = 1 then 5 else 7) 3) = Y := ⟨_, rfl⟩
  have oY2 := Lib.hid (show okB Y2 Y2.size = true by rw [← hY2]; exact okOne (HL.out _))
  have sY2 : Y2.size = 1 := by rw [← hY2]; exact strF_size _ _
  have HE2 := Lib.hid hY2
  rw [hY2]
  clear hb2 b1 hY2
  go_wp2_with fail
  refine (HC.out 3 6 7 _ _ (by omega)).mono ?_
  rintro e w3 ⟨rfl, hb3⟩
  have b3 := below_then (b2.alloc b2.size _) (Nat.le_refl _) hb3
  obtain ⟨Y3, hY3⟩ : ∃ Y, strF 1 (fun _ => 48 + ckF B (fun i => if i = 0 then 3 else if i = 1 then 6 else 7) 3) = Y := ⟨_, rfl⟩
  have oY3 := Lib.hid (show okB Y3 Y3.size = true by rw [← hY3]; exact okOne (HL.out _))
  have sY3 : Y3.size = 1 := by rw [← hY3]; exact strF_size _ _
  have HE3 := Lib.hid hY3
  rw [hY3]
  clear hb3 b2 hY3
  go_wp2_with fail
  refine (HC.out 5 6 7 _ _ (by omega)).mono ?_
  rintro e w4 ⟨rfl, hb4⟩
  have b4 := below_then (b3.alloc b3.size _) (Nat.le_refl _) hb4
  obtain ⟨Y4, hY4⟩ : ∃ Y, strF 1 (fun _ => 48 + ckF B (fun i => if i = 0 then 5 else if i = 1 then 6 else 7) 3) = Y := ⟨_, rfl⟩
  have oY4 := Lib.hid (show okB Y4 Y4.size = true by rw [← hY4]; exact okOne (HL.out _))
  have sY4 : Y4.size = 1 := by rw [← hY4]; exact strF_size _ _
  have HE4 := Lib.hid hY4
  have HV : Hid (Y2 ++ Y3 ++ A ++ Y4 ++ D = strF 7 (blkV (zb z))) := Lib.hid (by rw [← HE2.out, ← HE3.out, ← HE4.out]; exact HVL.out)
  rw [hY4]
  clear hb4 b3 hY4
  go_wp2_with fail
  go_quiet (fail)
  have b5 := below_drewN b4 nq
  go_wp2
  go_ret
  exact ⟨ret_str HV.out, b5⟩
end Go.Proofs.YtabokoodpobnnaaDoor
