/- The model's blocks: bits, seven of them. -/
import Derived.Test.YtabokoodpobnnaaDoorDrawHarm
import Derived.Test.YtabokoodpobnnaaDoorChk
import Derived.BigQuiet
namespace Go.Proofs.YtabokoodpobnnaaDoor
open Go.RowKit
set_option linter.unusedVariables false
set_option maxRecDepth 100000
set_option maxHeartbeats 1600000 in
theorem l6Block_any (z : ByteArray) (w : World) (ho : okB z z.size = true) (h4 : z.size = 4) :
    Calls Tryd.prog 60 #[.string z] w (BlkPost w) := by
  have s1 := size_extract z 0 1 (by omega)
  have s2 := size_extract z 1 4 (by omega)
  have o1 := okCut ho 0 1 (by omega)
  have o2 := okCut ho 1 4 (by omega)
  obtain ⟨A, hA⟩ : ∃ A, z.extract 0 1 = A := ⟨_, rfl⟩
  obtain ⟨D, hD⟩ : ∃ A, z.extract 1 4 = A := ⟨_, rfl⟩
  rw [hA] at s1 o1
  rw [hD] at s2 o2
  have oB : okB ((((⟨#[48, 48]⟩ : ByteArray) ++ A) ++ ⟨#[48]⟩) ++ D) ((((⟨#[48, 48]⟩ : ByteArray) ++ A) ++ ⟨#[48]⟩) ++ D).size = true := okApp (okApp (okApp (by decide) o1) (by decide)) o2
  have sB : ((((⟨#[48, 48]⟩ : ByteArray) ++ A) ++ ⟨#[48]⟩) ++ D).size = 7 := by
    rw [ByteArray.size_append, ByteArray.size_append, ByteArray.size_append, s1, s2]; rfl
  obtain ⟨B, hB⟩ : ∃ B, (((⟨#[48, 48]⟩ : ByteArray) ++ A) ++ ⟨#[48]⟩) ++ D = B := ⟨_, rfl⟩
  rw [hB] at oB sB
  have HC := Lib.hid (fun (a b c : Nat) (W : World) (t : TypeId) (h : (1 ≤ a ∧ a ≤ 7) ∧ (1 ≤ b ∧ b ≤ 7) ∧ 1 ≤ c ∧ c ≤ 7) => l6Check_any B W.heap.size (fun i => if i = 0 then a else if i = 1 then b else c) (W.alloc (.cells #[.int .i64 a, .int .i64 b, .int .i64 c] t)) (three_cells W t a b c) (fun i hi => by
    rw [sB]
    by_cases e0 : i = 0
    · subst e0; exact h.1
    · by_cases e1 : i = 1
      · subst e1; exact h.2.1
      · simp only [if_neg e0, if_neg e1]; exact h.2.2) oB (by omega))
  have hl := fun p => ckF_lt B p 3
  have HL := Lib.hid hl
  have x1 : A.size = 1 := by omega
  have x2 : D.size = 3 := by omega
  have O1 := Lib.hid o1
  have O2 := Lib.hid o2
  clear s1 s2 o1 o2 oB sB ho hl
  go_enter Tryd.func60, Tryd.ntmps60
  go_wp2_with fail
  go_quiet (fail)
  have b1 := below_drewN (Below.refl w.heap.size w) nq
  obtain ⟨W1, hW1⟩ : ∃ W, w.drewN nq = W := ⟨_, rfl⟩
  rw [hW1] at b1 ⊢
  clear hW1
  go_wp2_with fail
  refine (HC.out 3 5 7 _ _ (by omega)).mono ?_
  rintro e w2 ⟨rfl, hb2⟩
  have b2 := below_then (b1.alloc b1.size _) (Nat.le_refl _) hb2
  obtain ⟨Y2, hY2⟩ : ∃ Y, strF 1 (fun _ => 48 + ckF B (fun i => if i = 0 then 3 else if i = 1 then 5 else 7) 3) = Y := ⟨_, rfl⟩
  have oY2 := Lib.hid (show okB Y2 Y2.size = true by rw [← hY2]; exact okOne (HL.out _))
  have sY2 : Y2.size = 1 := by rw [← hY2]; exact strF_size _ _
  rw [hY2]
  clear hb2 b1 hY2
  go_wp2_with fail
  refine (HC.out 3 6 7 _ _ (by omega)).mono ?_
  rintro e w3 ⟨rfl, hb3⟩
  have b3 := below_then (b2.alloc b2.size _) (Nat.le_refl _) hb3
  obtain ⟨Y3, hY3⟩ : ∃ Y, strF 1 (fun _ => 48 + ckF B (fun i => if i = 0 then 3 else if i = 1 then 6 else 7) 3) = Y := ⟨_, rfl⟩
  have oY3 := Lib.hid (show okB Y3 Y3.size = true by rw [← hY3]; exact okOne (HL.out _))
  have sY3 : Y3.size = 1 := by rw [← hY3]; exact strF_size _ _
  rw [hY3]
  clear hb3 b2 hY3
  go_wp2_with fail
  refine (HC.out 5 6 7 _ _ (by omega)).mono ?_
  rintro e w4 ⟨rfl, hb4⟩
  have b4 := below_then (b3.alloc b3.size _) (Nat.le_refl _) hb4
  obtain ⟨Y4, hY4⟩ : ∃ Y, strF 1 (fun _ => 48 + ckF B (fun i => if i = 0 then 5 else if i = 1 then 6 else 7) 3) = Y := ⟨_, rfl⟩
  have oY4 := Lib.hid (show okB Y4 Y4.size = true by rw [← hY4]; exact okOne (HL.out _))
  have sY4 : Y4.size = 1 := by rw [← hY4]; exact strF_size _ _
  rw [hY4]
  clear hb4 b3 hY4
  go_wp2_with fail
  go_quiet (fail)
  have b5 := below_drewN b4 nq
  go_wp2
  go_ret
  refine ⟨_, rfl, okApp (okApp (okApp (okApp oY2.out oY3.out) O1.out) oY4.out) O2.out, ?_, b5⟩
  rw [ByteArray.size_append, ByteArray.size_append, ByteArray.size_append, ByteArray.size_append]; omega
end Go.Proofs.YtabokoodpobnnaaDoor
