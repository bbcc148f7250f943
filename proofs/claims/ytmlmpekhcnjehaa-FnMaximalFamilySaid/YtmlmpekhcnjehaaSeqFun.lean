/- Contracts: sums of bits, balances, correlations, of both sides. Contracts of ShiftBits, AddBits, InvertBits, DecimateBits, BalanceOf, CrossOf and AutoOf, of both sides. Contracts of BalanceOf, CrossOf and AutoOf, of both sides. -/
import Derived.Test.YtmlmpekhcnjehaaSeqTurn
namespace Go.Proofs.Ytmlmpekhcnjehaa
open Go.RowKit
set_option linter.unusedVariables false
theorem isBit (x : Nat) (h : x = 48 ∨ x = 49) : ∃ b : Nat, b < 2 ∧ x = 48 + b := by
  rcases h with rfl | rfl
  · exact ⟨0, by omega, rfl⟩
  · exact ⟨1, by omega, rfl⟩
theorem add_value (x y : Nat) (hx : x = 48 ∨ x = 49) (hy : y = 48 ∨ y = 49) : ∃ A B C : Nat, IntKind.u8.wrap ((x : Int) - 48) = A ∧ IntKind.u8.wrap (48 + (A : Int)) = B ∧ IntKind.u8.wrap ((y : Int) - 48) = C ∧ bits .xor .u8 (B : Int) (C : Int) = (addB x y : Nat) := by
  rcases hx with rfl | rfl <;> rcases hy with rfl | rfl
  · exact ⟨0, 48, 0, by decide, by decide, by decide, by kernel_rfl⟩
  · exact ⟨0, 48, 1, by decide, by decide, by decide, by kernel_rfl⟩
  · exact ⟨1, 49, 0, by decide, by decide, by decide, by kernel_rfl⟩
  · exact ⟨1, 49, 1, by decide, by decide, by decide, by kernel_rfl⟩
theorem iadd_value (x y : Nat) (hx : x = 48 ∨ x = 49) (hy : y = 48 ∨ y = 49) : ∃ A : Nat, bits .xor .u8 (x : Int) (y : Int) = A ∧ IntKind.u8.wrap (48 + (A : Int)) = (addB x y : Nat) := by
  rcases hx with rfl | rfl <;> rcases hy with rfl | rfl
  · exact ⟨0, by kernel_rfl, by decide⟩
  · exact ⟨1, by kernel_rfl, by decide⟩
  · exact ⟨1, by kernel_rfl, by decide⟩
  · exact ⟨0, by kernel_rfl, by decide⟩
/-- The sum of two strings of bits. -/
def addS (a b : ByteArray) : ByteArray := strF a.size (fun i => addB (zb a i) (zb b i))
theorem addB_bit (x y : Nat) : addB x y = 48 ∨ addB x y = 49 := by unfold addB; split <;> simp
theorem addS_size (a b : ByteArray) : (addS a b).size = a.size := strF_size _ _
theorem zb_addS (a b : ByteArray) (i : Nat) (hi : i < a.size) : zb (addS a b) i = addB (zb a i) (zb b i) := zb_strF hi (by rcases addB_bit (zb a i) (zb b i) with h | h <;> omega)
theorem addS_ok (a b : ByteArray) : okB (addS a b) (addS a b).size = true := okB_of_zb _ fun i hi => by rw [addS_size] at hi; rw [zb_addS a b i hi]; exact addB_bit _ _
theorem below_drew {B : Nat} {a w : World} (h : Below B a w) : Below B a w.drew := ⟨h.os, h.tape, h.output, h.size, h.block⟩
theorem bytes_below {B b : Nat} {w0 w : World} (hb : Below B w0 w) (hB : B ≤ b) (o : Nat) (v : Value) : Below B w0 (w.setCell ⟨b, o, none⟩ v) := hb.setCell (by exact hB) v
theorem row_step {wr : World} {b : Nat} {t : TypeId} {n k V : Nat} {F : Nat → Nat} (rB : Bytes wr b t n (fun v => if v < k then F v else 0)) (hV : F k = V) :
    Bytes (wr.setCell ⟨b, k, none⟩ (.int .u8 (V : Nat))) b t n (fun v => if v < k + 1 then F v else 0) :=
  Bytes.set rB k V fun v _ => by
    by_cases e : v = k
    · subst e; rw [if_pos (by omega), if_pos rfl, hV]
    · rw [if_neg e]
      by_cases e' : v < k
      · rw [if_pos (by omega), if_pos e']
      · rw [if_neg (by omega), if_neg e']
set_option maxRecDepth 100000 in
theorem l2Add_any (a b : ByteArray) (w : World) (ha : okB a a.size = true) (hb : okB b b.size = true) (h1 : a.size = b.size) (h2 : a.size ≤ 255) :
    Calls Try.prog 96 #[.string a, .string b] w fun e w' => e = .returned (.string (addS a b)) ∧ Below w.heap.size w w' := by
  have hmk := make_bytes a.size (by omega) (by omega)
  have HA := Lib.hid (okB_zb a ha)
  have HB := Lib.hid (okB_zb b hb)
  have H1 := Lib.hid h1
  clear ha hb h1
  go_enter Try.func96, Try.ntmps96
  go_wp2
  go_loopw [6] (fun i wr => ∃ k : Nat, k ≤ a.size ∧ i = .int .i64 k ∧ Bytes wr w.heap.size 5 a.size (fun v => if v < k then addB (zb a v) (zb b v) else 0) ∧ Below w.heap.size w wr) (fun i _ => a.size - (intOf i).toNat)
  case atStart => exact ⟨0, by omega, rfl, Bytes.congr (Bytes.new rfl) (fun v _ => by simp), (Below.refl _ _).alloc (Nat.le_refl _) _⟩
  case round =>
    obtain ⟨k, hk, rfl, rB, rb⟩ := hrel
    clear hmk
    by_cases hlt : k < a.size
    · have hlb : k < b.size := by have := H1.out; omega
      obtain ⟨A, B, C, v1, v2, v3, v4⟩ := add_value (zb a k) (zb b k) (HA.out k hlt) (HB.out k hlb)
      rw [← zb_at a k hlt] at v1
      rw [← zb_at b k hlb] at v3
      obtain ⟨V, hV⟩ : ∃ V, addB (zb a k) (zb b k) = V := ⟨_, rfl⟩
      rw [hV] at v4
      have hc := rB.cell k hlt
      have hf := World.rowIs.frozen rB k
      have i0 : (0 : Int) ≤ (k : Int) := by omega
      have i1 : (k : Int) < (a.size : Int) := by omega
      have i2 : (k : Int) < (b.size : Int) := by omega
      have nB : Hid (Bytes (wr.setCell ⟨w.heap.size, k, none⟩ (.int .u8 (V : Nat))).drew w.heap.size 5 a.size (fun v => if v < k + 1 then addB (zb a v) (zb b v) else 0)) :=
        row_step (F := fun v => addB (zb a v) (zb b v)) rB hV
      have nb : Hid (Below w.heap.size w (wr.setCell ⟨w.heap.size, k, none⟩ (.int .u8 (V : Nat))).drew) := Lib.hid (below_drew (bytes_below rb (Nat.le_refl _) _ _))
      clear hV rB rb
      go_wp2_with fail
      go_still_tail 13, (by kernel_rfl)
      clear v1 v2 v3 v4
      go_wp2
      go_roundw
      case rel => exact ⟨k + 1, by omega, by go_num, nB.out, nb.out⟩
      case measure => simp [intOf]; omega
    · obtain rfl : k = a.size := by omega
      have hst := fun cap => rB.str (P := Try.prog) 27 5 9 (by kernel_rfl) (by kernel_rfl) (by kernel_rfl) 0 a.size cap (by omega)
      obtain ⟨y, hy⟩ : ∃ y, strF a.size (fun i => if 0 + i < a.size then addB (zb a (0 + i)) (zb b (0 + i)) else 0) = y := ⟨_, rfl⟩
      rw [hy] at hst
      have HY : Hid (y = addS a b) := Lib.hid (by rw [← hy]; exact strF_congr fun i hi => by simp [hi])
      clear hy
      go_wp2
      go_ret
      exact ⟨ret_str HY.out, rb⟩
theorem bal_value (x : Nat) (hx : x = 48 ∨ x = 49) (s : Int) : s + 2 * ((x : Int) - 48) - 1 = s + agr x 49 := by
  rcases hx with rfl | rfl
  · rw [show agr 48 49 = -1 from rfl]; omega
  · rw [show agr 49 49 = 1 from rfl]; omega
set_option maxRecDepth 100000 in
theorem l2Balance_any (a : ByteArray) (w : World) (ha : okB a a.size = true) (h2 : a.size ≤ 255) :
    Calls Try.prog 95 #[.string a] w fun e w' => e = .returned (.int .i64 (balN a)) ∧ w = w' := by
  have HA := Lib.hid (okB_zb a ha)
  clear ha
  have HB := Lib.hid (fun n => sumI_bd (f := fun i => agr (zb a i) 49) (fun i => agr_bd _ _) n)
  go_enter Try.func95, Try.ntmps95
  go_wp2
  go_loop [3, 4] (fun s i => ∃ k : Nat, k ≤ a.size ∧ i = .int .i64 k ∧ s = .int .i64 (sumI (fun i => agr (zb a i) 49) k)) (fun _ i => a.size - (intOf i).toNat)
  case atStart => exact ⟨0, by omega, rfl, rfl⟩
  case round =>
    obtain ⟨k, hk, rfl, rfl⟩ := hrel
    have hbd := HB.out k
    by_cases hlt : k < a.size
    · have hx := HA.out k hlt
      have HV := Lib.hid (bal_value (zb a k) hx (sumI (fun i => agr (zb a i) 49) k))
      have hbv : 48 ≤ a[k].toNat ∧ a[k].toNat ≤ 49 := by rw [zb_at a k hlt]; omega
      have HZ := Lib.hid (zb_at a k hlt)
      obtain ⟨S, hS⟩ : ∃ S, sumI (fun i => agr (zb a i) 49) k = S := ⟨_, rfl⟩
      rw [hS] at hbd HV ⊢
      have HS := Lib.hid hS
      clear hS hx
      obtain ⟨hb1, hb2⟩ := hbd
      obtain ⟨hb3, hb4⟩ := hbv
      go_wp2
      go_round
      case rel => exact ⟨k + 1, by omega, by go_num, by rw [sumI, HS.out, ← HV.out, ← HZ.out]⟩
      case measure => simp [intOf]; omega
    · obtain rfl : k = a.size := by omega
      go_wp2
      go_ret
      exact ⟨rfl, rfl⟩
/-- A correlation is the opposite of the balance of the sum. -/
theorem agr_add (x y : Nat) : agr (addB x y) 49 = - agr x y := by unfold agr addB; split <;> simp
theorem balN_addS (a b : ByteArray) : balN (addS a b) = - sumI (fun i => agr (zb a i) (zb b i)) a.size := by
  unfold balN
  rw [addS_size, ← sumI_neg]
  exact sumI_congr _ fun i hi => by rw [zb_addS a b i hi, agr_add]
theorem balN_bd (a : ByteArray) : -(a.size : Int) ≤ balN a ∧ balN a ≤ a.size := sumI_bd (fun i => agr_bd _ _) _
theorem shift_ok (z : ByteArray) (k : Int) (h : okB z z.size = true) : okB (shift z k) (shift z k).size = true := okB_of_zb _ fun i hi => by
  rw [shift_size] at hi; rw [zb_shift z k i hi]; exact okB_zb z h _ (Nat.mod_lt _ (by omega))
theorem cross_bal (a b : ByteArray) (k : Int) (h : a.size = b.size) : - balN (addS a (shift b k)) = crossN a b (modN k b.size) := by
  rw [balN_addS, Int.neg_neg]
  exact sumI_congr _ fun i hi => by rw [zb_shift b k i (by omega)]; rfl
theorem crossN_bd (a b : ByteArray) (k : Nat) : -(a.size : Int) ≤ crossN a b k ∧ crossN a b k ≤ a.size := sumI_bd (fun i => agr_bd _ _) _
set_option maxRecDepth 100000 in
theorem l2Cross_any (a b : ByteArray) (k : Int) (w : World) (h : pairB a b = true) :
    Calls Try.prog 80 #[.string a, .string b, .int .i64 k] w fun e w' => e = .returned (.int .i64 (crossN a b (modN k b.size))) ∧ Below w.heap.size w w' := by
  obtain ⟨h1, h2, h3⟩ := (pairB_iff a b).1 h
  obtain ⟨a1, a2, a3⟩ := (seqB_iff a).1 h1
  obtain ⟨b1, b2, b3⟩ := (seqB_iff b).1 h2
  have hs := fun w => l2Shift_any b k w b2 b3
  have hA := fun w => l2Add_any a (shift b k) w a1 (shift_ok b k b1) (by rw [shift_size]; exact h3) a3
  have hB := fun w => l2Balance_any (addS a (shift b k)) w (addS_ok _ _) (by rw [addS_size]; exact a3)
  have hb := balN_bd (addS a (shift b k))
  rw [addS_size] at hb
  have HC := Lib.hid (cross_bal a b k h3)
  obtain ⟨X, hX⟩ : ∃ X, balN (addS a (shift b k)) = X := ⟨_, rfl⟩
  rw [hX] at hB hb HC
  clear hX h1 h2 h3 a1 b1 h
  obtain ⟨c1, c2⟩ := hb
  go_enter Try.func80, Try.ntmps80
  go_wp2_with fail
  refine (hs _).mono ?_
  rintro e w1 ⟨rfl, n, rfl⟩
  go_wp2_with fail
  refine (hA _).mono ?_
  rintro e w2 ⟨rfl, q2⟩
  have q2' : Below w.heap.size w w2 := below_then (below_drewN (Below.refl _ w) n) (Nat.le_refl _) q2
  clear q2
  go_wp2_with fail
  refine (hB _).mono ?_
  rintro e w3 ⟨rfl, rfl⟩
  go_wp2
  go_ret
  exact ⟨ret_int HC.out, q2'⟩
set_option maxRecDepth 100000 in
theorem corrB_any (a : ByteArray) (g off cap : Nat) (f : Nat → Nat) (w : World) (h : a.size ≤ 255) (hc : ∀ i, i < a.size → w.cell? ⟨g, off + i, none⟩ = some (.int .u8 (f i : Nat))) :
    Calls Try.prog 69 #[.string a, .slice (some ⟨g, off, none⟩) a.size cap] w fun e w' => e = .returned (.int .i64 (sumI (fun i => agr (zb a i) (f i)) a.size)) ∧ ∃ n, w' = w.drewN n := by
  have HC := Lib.hid hc
  clear hc
  have HB := Lib.hid (fun n => sumI_bd (f := fun i => agr (zb a i) (f i)) (fun i => agr_bd _ _) n)
  go_enter Try.func69, Try.ntmps69
  go_wp2
  go_loopw [5, 9] (fun s i wr => ∃ k m : Nat, k ≤ a.size ∧ i = .int .i64 k ∧ s = .int .i64 (sumI (fun i => agr (zb a i) (f i)) k) ∧ wr = w.drewN m) (fun _ i _ => a.size - (intOf i).toNat)
  case atStart => exact ⟨0, 0, by omega, rfl, rfl, rfl⟩
  case round =>
    obtain ⟨k, m, hk, rfl, rfl, rfl⟩ := hrel
    have hbd := HB.out k
    obtain ⟨S, hS⟩ : ∃ S, sumI (fun i => agr (zb a i) (f i)) k = S := ⟨_, rfl⟩
    rw [hS] at hbd ⊢
    have HS := Lib.hid hS
    clear hS
    obtain ⟨hb1, hb2⟩ := hbd
    by_cases hlt : k < a.size
    · have hc : (w.drewN m).cell? ⟨g, off + k, none⟩ = some (.int .u8 (f k : Nat)) := HC.out k hlt
      obtain ⟨W, hW⟩ : ∃ W, w.drewN m = W := ⟨_, rfl⟩
      rw [hW] at hc ⊢
      have HW := Lib.hid hW
      clear hW
      have i0 : (0 : Int) ≤ (k : Int) := by omega
      have i1 : (k : Int) < (a.size : Int) := by omega
      have HZ := Lib.hid (zb_at a k hlt)
      by_cases he : zb a k = f k
      · have ht : (((a[k].toNat : Nat) : Int) == ((f k : Nat) : Int)) = true := by rw [HZ.out, he]; simp
        have HV := Lib.hid (show agr (zb a k) (f k) = 1 by unfold agr; rw [if_pos he])
        clear he
        go_wp2_with fail
        go_quiet (fail)
        clear hc
        go_wp2
        go_roundw
        case rel => exact ⟨k + 1, m + nq, by omega, by go_num, by rw [sumI, HS.out, HV.out], by rw [← HW.out, World.drewN_drewN]⟩
        case measure => simp [intOf]; omega
      · have ht : (((a[k].toNat : Nat) : Int) == ((f k : Nat) : Int)) = false := by rw [HZ.out]; simp; omega
        have HV := Lib.hid (show agr (zb a k) (f k) = -1 by unfold agr; rw [if_neg he])
        clear he
        go_wp2_with fail
        go_quiet (fail)
        clear hc
        go_wp2
        go_roundw
        case rel => exact ⟨k + 1, m + nq, by omega, by go_num, by rw [sumI, HS.out, HV.out]; rfl, by rw [← HW.out, World.drewN_drewN]⟩
        case measure => simp [intOf]; omega
    · obtain rfl : k = a.size := by omega
      go_wp2
      go_ret
      exact ⟨ret_int HS.out.symm, m, rfl⟩
end Go.Proofs.Ytmlmpekhcnjehaa
namespace Go.Proofs.Ytmlmpekhcnjehaa
open Go.RowKit
set_option linter.unusedVariables false
theorem turned_str {w' : World} {g : Nat} {z : ByteArray} (hR : Bytes w' g 5 (2 * z.size) (fun i => zb z (i % z.size))) (k : Int) (h : 1 ≤ z.size) (cap : Nat) :
    (convert 27 9 (.slice (some ⟨g, modN k z.size, none⟩) z.size cap)).run Try.prog w' = .ok (.string (shift z k)) w' := by
  have hm := modN_lt k z.size (by omega)
  exact hR.str (P := Try.prog) 27 5 9 (by kernel_rfl) (by kernel_rfl) (by kernel_rfl) (modN k z.size) z.size cap (by omega)
theorem ret_sb {a b : ByteArray} {c : Bool} (h : a = b) : Ending.returned (.tuple #[.string a, .bool c]) = .returned (.tuple #[.string b, .bool c]) := by rw [h]
theorem ret_ib {k : IntKind} {a b : Int} {c : Bool} (h : a = b) : Ending.returned (.tuple #[.int k a, .bool c]) = .returned (.tuple #[.int k b, .bool c]) := by rw [h]
theorem ret_ans {A : Int × Bool} {x : Int} {c : Bool} (h : A = (x, c)) : Ending.returned (.tuple #[.int .i64 x, .bool c]) = .returned (.tuple #[.int .i64 A.1, .bool A.2]) := by rw [h]
theorem str_ne {y z : ByteArray} (h : ¬ y = z) : (y.toList == z.toList) = false := by
  rw [ByteArray.toList_eq, ByteArray.toList_eq]
  apply Bool.eq_false_iff.2
  intro e
  have e' := eq_of_beq e
  apply h
  cases y; cases z
  congr 1
  exact Array.toList_inj.1 e'
theorem str_ne' {y z : ByteArray} (h : ¬ y = z) : (!y.toList == z.toList) = true := by rw [str_ne h]; rfl
def noS : ByteArray × Bool := (ByteArray.empty, false)
def noI : Int × Bool := (0, false)
theorem size_le {z : ByteArray} (h : seqB z = true) : 1 ≤ z.size ∧ z.size ≤ 255 := ((seqB_iff z).1 h).2
theorem iSeq_b (z : ByteArray) (w : World) (hs : z.size ≤ 9223372036854775807) :
    Calls Try.prog 38 #[.string z] w fun e w' => e = .returned (.bool (seqB z)) ∧ Below w.heap.size w w' :=
  (iSequenceValid_any z w hs).mono fun e w' ⟨he, hw⟩ => ⟨he, hw ▸ Below.refl _ _⟩
theorem sSeq_b (z : ByteArray) (w : World) (hs : z.size ≤ 9223372036854775807) :
    Calls Try.prog 94 #[.string z] w fun e w' => e = .returned (.bool (seqB z)) ∧ Below w.heap.size w w' :=
  (sSequenceValid_any z w hs).mono fun e w' ⟨he, hw⟩ => ⟨he, hw ▸ Below.refl _ _⟩
/-- What ShiftBits answers. -/
def shiftAns (z : ByteArray) (k : Int) : ByteArray × Bool := if seqB z then (shift z k, true) else noS
/-- What AddBits answers. -/
def addAns (a b : ByteArray) : ByteArray × Bool := if pairB a b then (addS a b, true) else noS
end Go.Proofs.Ytmlmpekhcnjehaa
namespace Go.Proofs.Ytmlmpekhcnjehaa
open Go.RowKit
set_option linter.unusedVariables false
/-- What BalanceOf answers. -/
def balAns (z : ByteArray) : Int × Bool := if seqB z then (balN z, true) else noI
/-- What CrossOf answers. -/
def crossAns (a b : ByteArray) (k : Int) : Int × Bool := if pairB a b then (crossN a b (modN k b.size), true) else noI
theorem turned_cells {w' : World} {g : Nat} {z : ByteArray} (hR : Bytes w' g 5 (2 * z.size) (fun i => zb z (i % z.size))) (k : Int) (h : 1 ≤ z.size) :
    ∀ i, i < z.size → w'.cell? ⟨g, modN k z.size + i, none⟩ = some (.int .u8 (shB z (modN k z.size) i : Nat)) := fun i hi => by
  have hm := modN_lt k z.size (by omega)
  exact hR.cell _ (by omega)
def autoAns (z : ByteArray) (k : Int) : Int × Bool := crossAns z z k
end Go.Proofs.Ytmlmpekhcnjehaa
