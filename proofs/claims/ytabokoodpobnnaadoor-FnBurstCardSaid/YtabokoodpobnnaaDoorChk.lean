/- A check bit of the model. -/
import Derived.Test.YtabokoodpobnnaaDoorFlp
import Derived.Test.YtabokoodpobnnaaDoorFam2
import Derived.BigQuiet
namespace Go.Proofs.YtabokoodpobnnaaDoor
open Go.RowKit
set_option linter.unusedVariables false
set_option maxRecDepth 100000
/-- The sum, modulo 2, of the bits in some places. -/
def ckF (B : ByteArray) (p : Nat → Nat) : Nat → Nat
  | 0 => 0
  | i + 1 => (ckF B p i + (zb B (p i - 1) - 48)) % 2
theorem ckF_lt (B : ByteArray) (p : Nat → Nat) : ∀ i, ckF B p i < 2
  | 0 => by show 0 < 2; omega
  | i + 1 => by simp only [ckF]; omega
theorem l6Check_any (B : ByteArray) (g : Nat) (p : Nat → Nat) (w : World) (hc : ∀ i, i < 3 → w.cell? ⟨g, i, none⟩ = some (.int .i64 (p i : Nat))) (hp : ∀ i, i < 3 → 1 ≤ p i ∧ p i ≤ B.size) (ho : okB B B.size = true) (hb : B.size ≤ 600) :
    Calls Tryd.prog 87 #[.string B, .slice (some ⟨g, 0, none⟩) 3 3] w fun e w' => e = .returned (.string (strF 1 (fun _ => 48 + ckF B p 3))) ∧ Below w.heap.size w w' := by
  have HC := Lib.hid hc
  have HP := Lib.hid hp
  have HO := Lib.hid (okB_zb B ho)
  clear hc hp ho
  go_enter Tryd.func87, Tryd.ntmps87
  go_wp2
  go_loopw [5, 6] (fun s i wr => ∃ k : Nat, k ≤ 3 ∧ i = .int .i64 k ∧ s = .int .i64 (ckF B p k : Nat) ∧ w = wr) (fun _ i _ => 3 - (intOf i).toNat)
  case atStart => exact ⟨0, by omega, rfl, rfl, rfl⟩
  case round =>
    obtain ⟨k, hk, rfl, rfl, rfl⟩ := hrel
    by_cases hlt : k < 3
    · have c1 := HC.out k hlt
      obtain ⟨p1, p2⟩ := HP.out k hlt
      have hnx : ckF B p (k + 1) = (ckF B p k + (zb B (p k - 1) - 48)) % 2 := rfl
      have hsl := ckF_lt B p k
      obtain ⟨S, hS⟩ : ∃ S, ckF B p k = S := ⟨_, rfl⟩
      rw [hS] at hnx hsl ⊢
      obtain ⟨P, hP⟩ : ∃ P, p k = P := ⟨_, rfl⟩
      rw [hP] at c1 p1 p2 hnx
      obtain ⟨J, hJ⟩ : ∃ J, P - 1 = J := ⟨_, rfl⟩
      rw [hJ] at hnx
      have hJs : J < B.size := by omega
      have v1 : (P : Int) - 1 = (J : Int) := by omega
      obtain ⟨b, hb2, hbz⟩ := isBit _ (HO.out J hJs)
      have v2 : (B[J].toNat : Int) - 48 = (b : Int) := by rw [zb_at B J hJs, hbz]; omega
      have v3 := xor64_bit S b hsl hb2
      rw [hbz, Nat.add_sub_cancel_left] at hnx
      rw [← hnx] at v3
      obtain ⟨X, hX⟩ : ∃ X, ckF B p (k + 1) = X := ⟨_, rfl⟩
      rw [hX] at v3
      have HX := Lib.hid hX
      have u1 : IntKind.i64.wrap ((P : Int) - 1) = (J : Int) := by rw [v1]; exact IntWalk.i64_in _ (by omega)
      have i0 : (0 : Int) ≤ (k : Int) := by omega
      have i1 : (k : Int) < 3 := by omega
      have i2 : (0 : Int) ≤ (J : Int) := by omega
      have i3 : (J : Int) < (B.size : Int) := by omega
      have HK := Lib.hid hlt
      clear hnx hX hS hP hJ hbz hlt
      go_wp2
      clear v1 v2 v3 u1
      go_roundw
      case rel => exact ⟨k + 1, HK.out, by go_num, by rw [HX.out], trivial⟩
      case measure => simp [intOf]; omega
    · obtain rfl : k = 3 := by omega
      have hl := ckF_lt B p 3
      have HD := Lib.hid (fun w => l9Dec_bit (ckF B p 3) w (by omega))
      obtain ⟨C, hC⟩ : ∃ C, ckF B p 3 = C := ⟨_, rfl⟩
      rw [hC] at HD ⊢
      have HCC := Lib.hid hC
      clear hC
      go_wp2_with fail
      refine (HD.out _).mono ?_
      rintro e w1 ⟨rfl, b1⟩
      go_wp2
      go_ret
      exact ⟨ret_str (by rw [HCC.out]), b1⟩
def BlkPost (w : World) (e : Ending) (w' : World) : Prop := ∃ y : ByteArray, e = .returned (.string y) ∧ okB y y.size = true ∧ y.size = 7 ∧ Below w.heap.size w w'
theorem okApp {a b : ByteArray} (ha : okB a a.size = true) (hb : okB b b.size = true) : okB (a ++ b) (a ++ b).size = true := okB_of_zb _ fun i hi => by
  rw [ByteArray.size_append] at hi
  by_cases h : i < a.size
  · rw [zb_append_left _ _ _ h]; exact okB_zb a ha i h
  · rw [zb_append_right _ _ _ (by omega) hi]; exact okB_zb b hb _ (by omega)
theorem okOne {c : Nat} (h : c < 2) : okB (strF 1 (fun _ => 48 + c)) (strF 1 (fun _ => 48 + c)).size = true := okB_of_zb _ fun i hi => by
  rw [strF_size] at hi
  rw [zb_strF hi (by omega)]; omega
theorem three_cells (w : World) (t : TypeId) (a b c : Nat) : ∀ i, i < 3 → (w.alloc (.cells #[.int .i64 a, .int .i64 b, .int .i64 c] t)).cell? ⟨w.heap.size, i, none⟩ = some (.int .i64 ((if i = 0 then a else if i = 1 then b else c : Nat) : Int)) := fun i hi => by
  have h : i = 0 ∨ i = 1 ∨ i = 2 := by omega
  rcases h with rfl | rfl | rfl <;> simp
end Go.Proofs.YtabokoodpobnnaaDoor
