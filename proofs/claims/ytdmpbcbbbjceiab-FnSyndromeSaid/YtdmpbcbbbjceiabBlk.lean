/- The model's blocks: bits, seven of them. -/
import Derived.Test.YtdmpbcbbbjceiabDrawHarm
import Derived.Test.YtdmpbcbbbjceiabFam2
import Derived.BigQuiet
namespace Go.Proofs.Ytdmpbcbbbjceiab
open Go.RowKit
set_option linter.unusedVariables false
set_option maxRecDepth 100000
/-- The sum, modulo 2, of the bits in some places. -/
def ckF (B : ByteArray) (p : Nat → Nat) : Nat → Nat
  | 0 => 0
  | i + 1 => (ckF B p i + (zb B (p i - 1) - 48)) % 2
theorem ckF_lt (B : ByteArray) (p : Nat → Nat) : ∀ i, ckF B p i < 2
  | 0 => by show 0 < 2; omega
  | i + 1 => by simp only [ckF]; omega
theorem l6Check_any (B : ByteArray) (g : Nat) (p : Nat → Nat) (w : World) (hc : ∀ i, i < 3 → w.cell? ⟨g, i, none⟩ = some (.int .i64 (p i : Nat))) (hp : ∀ i, i < 3 → 1 ≤ p i ∧ p i ≤ B.size) (ho : okB B B.size = true) (hb : B.size ≤ 600) :
    Calls Try.prog 84 #[.string B, .slice (some ⟨g, 0, none⟩) 3 3] w fun e w' => e = .returned (.string (strF 1 (fun _ => 48 + ckF B p 3))) ∧ Below w.heap.size w w' := by
  have HC := Lib.hid hc
  have HP := Lib.hid hp
  have HO := Lib.hid (okB_zb B ho)
  clear hc hp ho
  go_enter Try.func84, Try.ntmps84
  go_wp2
  go_loopw [5, 6] (fun s i wr => ∃ k : Nat, k ≤ 3 ∧ i = .int .i64 k ∧ s = .int .i64 (ckF B p k : Nat) ∧ w = wr) (fun _ i _ => 3 - (intOf i).toNat)
  case atStart => exact ⟨0, by omega, rfl, rfl, rfl⟩
  case round =>
    obtain ⟨k, hk, rfl, rfl, rfl⟩ := hrel
    by_cases hlt : k < 3
    · have c1 := HC.out k hlt
      obtain ⟨p1, p2⟩ := HP.out k hlt
      have hnx : ckF B p (k + 1) = (ckF B p k + (zb B (p k - 1) - 48)) % 2 := rfl
      have hsl := ckF_lt B p k
      obtain ⟨S, hS⟩ : ∃ S, ckF B p k = S := ⟨_, rfl⟩
      rw [hS] at hnx hsl ⊢
      obtain ⟨P, hP⟩ : ∃ P, p k = P := ⟨_, rfl⟩
      rw [hP] at c1 p1 p2 hnx
      obtain ⟨J, hJ⟩ : ∃ J, P - 1 = J := ⟨_, rfl⟩
      rw [hJ] at hnx
      have hJs : J < B.size := by omega
      have v1 : (P : Int) - 1 = (J : Int) := by omega
      obtain ⟨b, hb2, hbz⟩ := isBit _ (HO.out J hJs)
      have v2 : (B[J].toNat : Int) - 48 = (b : Int) := by rw [zb_at B J hJs, hbz]; omega
      have v3 := xor64_bit S b hsl hb2
      rw [hbz, Nat.add_sub_cancel_left] at hnx
      rw [← hnx] at v3
      obtain ⟨X, hX⟩ : ∃ X, ckF B p (k + 1) = X := ⟨_, rfl⟩
      rw [hX] at v3
      have HX := Lib.hid hX
      have u1 : IntKind.i64.wrap ((P : Int) - 1) = (J : Int) := by rw [v1]; exact IntWalk.i64_in _ (by omega)
      have i0 : (0 : Int) ≤ (k : Int) := by omega
      have i1 : (k : Int) < 3 := by omega
      have i2 : (0 : Int) ≤ (J : Int) := by omega
      have i3 : (J : Int) < (B.size : Int) := by omega
      have HK := Lib.hid hlt
      clear hnx hX hS hP hJ hbz hlt
      go_wp2
      clear v1 v2 v3 u1
      go_roundw
      case rel => exact ⟨k + 1, HK.out, by go_num, by rw [HX.out], trivial⟩
      case measure => simp [intOf]; omega
    · obtain rfl : k = 3 := by omega
      have hl := ckF_lt B p 3
      have HD := Lib.hid (fun w => l9Dec_bit (ckF B p 3) w (by omega))
      obtain ⟨C, hC⟩ : ∃ C, ckF B p 3 = C := ⟨_, rfl⟩
      rw [hC] at HD ⊢
      have HCC := Lib.hid hC
      clear hC
      go_wp2_with fail
      refine (HD.out _).mono ?_
      rintro e w1 ⟨rfl, b1⟩
      go_wp2
      go_ret
      exact ⟨ret_str (by rw [HCC.out]), b1⟩
def BlkPost (w : World) (e : Ending) (w' : World) : Prop := ∃ y : ByteArray, e = .returned (.string y) ∧ okB y y.size = true ∧ y.size = 7 ∧ Below w.heap.size w w'
theorem okApp {a b : ByteArray} (ha : okB a a.size = true) (hb : okB b b.size = true) : okB (a ++ b) (a ++ b).size = true := okB_of_zb _ fun i hi => by
  rw [ByteArray.size_append] at hi
  by_cases h : i < a.size
  · rw [zb_append_left _ _ _ h]; exact okB_zb a ha i h
  · rw [zb_append_right _ _ _ (by omega) hi]; exact okB_zb b hb _ (by omega)
theorem okOne {c : Nat} (h : c < 2) : okB (strF 1 (fun _ => 48 + c)) (strF 1 (fun _ => 48 + c)).size = true := okB_of_zb _ fun i hi => by
  rw [strF_size] at hi
  rw [zb_strF hi (by omega)]; omega
theorem three_cells (w : World) (t : TypeId) (a b c : Nat) : ∀ i, i < 3 → (w.alloc (.cells #[.int .i64 a, .int .i64 b, .int .i64 c] t)).cell? ⟨w.heap.size, i, none⟩ = some (.int .i64 ((if i = 0 then a else if i = 1 then b else c : Nat) : Int)) := fun i hi => by
  have h : i = 0 ∨ i = 1 ∨ i = 2 := by omega
  rcases h with rfl | rfl | rfl <;> simp
set_option maxHeartbeats 1600000 in
theorem l6Block_any (z : ByteArray) (w : World) (ho : okB z z.size = true) (h4 : z.size = 4) :
    Calls Try.prog 62 #[.string z] w (BlkPost w) := by
  have s1 := size_extract z 0 1 (by omega)
  have s2 := size_extract z 1 4 (by omega)
  have o1 := okCut ho 0 1 (by omega)
  have o2 := okCut ho 1 4 (by omega)
  obtain ⟨A, hA⟩ : ∃ A, z.extract 0 1 = A := ⟨_, rfl⟩
  obtain ⟨D, hD⟩ : ∃ A, z.extract 1 4 = A := ⟨_, rfl⟩
  rw [hA] at s1 o1
  rw [hD] at s2 o2
  have oB : okB ((((⟨#[48, 48]⟩ : ByteArray) ++ A) ++ ⟨#[48]⟩) ++ D) ((((⟨#[48, 48]⟩ : ByteArray) ++ A) ++ ⟨#[48]⟩) ++ D).size = true := okApp (okApp (okApp (by decide) o1) (by decide)) o2
  have sB : ((((⟨#[48, 48]⟩ : ByteArray) ++ A) ++ ⟨#[48]⟩) ++ D).size = 7 := by
    rw [ByteArray.size_append, ByteArray.size_append, ByteArray.size_append, s1, s2]; rfl
  obtain ⟨B, hB⟩ : ∃ B, (((⟨#[48, 48]⟩ : ByteArray) ++ A) ++ ⟨#[48]⟩) ++ D = B := ⟨_, rfl⟩
  rw [hB] at oB sB
  have HC := Lib.hid (fun (a b c : Nat) (W : World) (t : TypeId) (h : (1 ≤ a ∧ a ≤ 7) ∧ (1 ≤ b ∧ b ≤ 7) ∧ 1 ≤ c ∧ c ≤ 7) => l6Check_any B W.heap.size (fun i => if i = 0 then a else if i = 1 then b else c) (W.alloc (.cells #[.int .i64 a, .int .i64 b, .int .i64 c] t)) (three_cells W t a b c) (fun i hi => by
    rw [sB]
    by_cases e0 : i = 0
    · subst e0; exact h.1
    · by_cases e1 : i = 1
      · subst e1; exact h.2.1
      · simp only [if_neg e0, if_neg e1]; exact h.2.2) oB (by omega))
  have hl := fun p => ckF_lt B p 3
  have HL := Lib.hid hl
  have x1 : A.size = 1 := by omega
  have x2 : D.size = 3 := by omega
  have O1 := Lib.hid o1
  have O2 := Lib.hid o2
  clear s1 s2 o1 o2 oB sB ho hl
  go_enter Try.func62, Try.ntmps62
  go_wp2_with fail
  go_quiet (fail)
  have b1 := below_drewN (Below.refl w.heap.size w) nq
  obtain ⟨W1, hW1⟩ : ∃ W, w.drewN nq = W := ⟨_, rfl⟩
  rw [hW1] at b1 ⊢
  clear hW1
  go_wp2_with fail
  refine (HC.out 3 5 7 _ _ (by omega)).mono ?_
  rintro e w2 ⟨rfl, hb2⟩
  have b2 := below_then (b1.alloc b1.size _) (Nat.le_refl _) hb2
  obtain ⟨Y2, hY2⟩ : ∃ Y, strF 1 (fun _ => 48 + ckF B (fun i => if i = 0 then 3 else if i = 1 then 5 else 7) 3) = Y := ⟨_, rfl⟩
  have oY2 := Lib.hid (show okB Y2 Y2.size = true by rw [← hY2]; exact okOne (HL.out _))
  have sY2 : Y2.size = 1 := by rw [← hY2]; exact strF_size _ _
  rw [hY2]
  clear hb2 b1 hY2
  go_wp2_with fail
  refine (HC.out 3 6 7 _ _ (by omega)).mono ?_
  rintro e w3 ⟨rfl, hb3⟩
  have b3 := below_then (b2.alloc b2.size _) (Nat.le_refl _) hb3
  obtain ⟨Y3, hY3⟩ : ∃ Y, strF 1 (fun _ => 48 + ckF B (fun i => if i = 0 then 3 else if i = 1 then 6 else 7) 3) = Y := ⟨_, rfl⟩
  have oY3 := Lib.hid (show okB Y3 Y3.size = true by rw [← hY3]; exact okOne (HL.out _))
  have sY3 : Y3.size = 1 := by rw [← hY3]; exact strF_size _ _
  rw [hY3]
  clear hb3 b2 hY3
  go_wp2_with fail
  refine (HC.out 5 6 7 _ _ (by omega)).mono ?_
  rintro e w4 ⟨rfl, hb4⟩
  have b4 := below_then (b3.alloc b3.size _) (Nat.le_refl _) hb4
  obtain ⟨Y4, hY4⟩ : ∃ Y, strF 1 (fun _ => 48 + ckF B (fun i => if i = 0 then 5 else if i = 1 then 6 else 7) 3) = Y := ⟨_, rfl⟩
  have oY4 := Lib.hid (show okB Y4 Y4.size = true by rw [← hY4]; exact okOne (HL.out _))
  have sY4 : Y4.size = 1 := by rw [← hY4]; exact strF_size _ _
  rw [hY4]
  clear hb4 b3 hY4
  go_wp2_with fail
  go_quiet (fail)
  have b5 := below_drewN b4 nq
  go_wp2
  go_ret
  refine ⟨_, rfl, okApp (okApp (okApp (okApp oY2.out oY3.out) O1.out) oY4.out) O2.out, ?_, b5⟩
  rw [ByteArray.size_append, ByteArray.size_append, ByteArray.size_append, ByteArray.size_append]; omega
end Go.Proofs.Ytdmpbcbbbjceiab
