/- A frame that stands in bits is read. Two frames side by side. -/
import Derived.Test.YtdafepfjjmdkeaaDoorFrm11
import Derived.Test.YtdafepfjjmdkeaaDoorFndAll
namespace Go.Proofs.YtdafepfjjmdkeaaDoor
open Go.RowKit
set_option linter.unusedVariables false
set_option maxRecDepth 100000
theorem num_dig (n : Nat) (h : n < 128) : numF (digF n 7) 7 = n := by
  show 2 * (2 * (2 * (2 * (2 * (2 * (2 * 0 + (48 + n / 64 % 2 - 48)) + (48 + n / 32 % 2 - 48)) + (48 + n / 16 % 2 - 48)) + (48 + n / 8 % 2 - 48)) + (48 + n / 4 % 2 - 48)) + (48 + n / 2 % 2 - 48)) + (48 + n / 1 % 2 - 48) = n
  omega
theorem zb_frm_num {z : ByteArray} {i : Nat} (hi : i < 7) : zb (frmS z) (8 + i) = digF z.size 7 i := by
  have s8 : (⟨#[49, 49, 49, 48, 49, 48, 48, 48]⟩ : ByteArray).size = 8 := rfl
  unfold frmS
  rw [zb_append_left _ _ _ (by rw [ByteArray.size_append, innS_size, s8]; omega), zb_append_right _ _ _ (by rw [s8]; omega) (by rw [innS_size, s8]; omega), s8, Nat.add_sub_cancel_left]
  unfold innS
  rw [zb_append_left _ _ _ (by rw [digS_size]; exact hi)]
  exact zb_strF hi (digF_lt _ _ _)
theorem zb_frm_pay {z : ByteArray} {i : Nat} (hi : i < z.size) : zb (frmS z) (15 + i) = zb z i := by
  have s8 : (⟨#[49, 49, 49, 48, 49, 48, 48, 48]⟩ : ByteArray).size = 8 := rfl
  unfold frmS
  rw [zb_append_left _ _ _ (by rw [ByteArray.size_append, innS_size, s8]; omega), zb_append_right _ _ _ (by rw [s8]; omega) (by rw [innS_size, s8]; omega), s8, show 15 + i - 8 = 7 + i by omega]
  unfold innS
  rw [zb_append_right _ _ _ (by rw [digS_size]; omega) (by rw [digS_size]; omega), digS_size, Nat.add_sub_cancel_left]
/-- A frame that stands in bits is read. -/
theorem hit_frame {P G : ByteArray} {m : Nat} (h100 : P.size ≤ 100) (hG : m + (23 + P.size) ≤ G.size) (hz : ∀ i, i < 23 + P.size → zb G (m + i) = zb (frmS P) i) :
    hitB G m = true ∧ parP G m = P ∧ nAt G m = P.size := by
  have hn : nAt G m = P.size := by
    have e : nAt G m = numF (digF P.size 7) 7 := numF_congr 7 fun i hi => by
      show zb G (m + 8 + i) = _
      rw [Nat.add_assoc, hz (8 + i) (by omega), zb_frm_num hi]
    rw [e, num_dig _ (by omega)]
  have hp : parP G m = P := by
    unfold parP
    rw [hn]
    have s := size_extract G (m + 15) (m + 15 + P.size) (by omega)
    refine ba_ext (by rw [s]; omega) fun i hi => ?_
    rw [s] at hi
    rw [zb_extract _ _ _ _ (by omega) (by omega), Nat.add_assoc, hz (15 + i) (by omega), zb_frm_pay (by omega)]
  refine ⟨(hitB_iff G m).2 ⟨by omega, by omega, by omega, ?_⟩, hp, hn⟩
  rw [hp, hn]
  have s := size_extract G m (m + 23 + P.size) (by omega)
  refine ba_ext (by rw [s, frmS_size]; omega) fun i hi => ?_
  rw [frmS_size] at hi
  rw [zb_extract _ _ _ _ (by omega) (by omega), hz i hi]
theorem zb_three {Z F : ByteArray} {i : Nat} (hi : i < F.size) : zb ((Z ++ F) ++ Z) (Z.size + i) = zb F i := by
  rw [zb_append_left _ _ _ (by rw [ByteArray.size_append]; omega), zb_append_right _ _ _ (by omega) (by omega), Nat.add_sub_cancel_left]
/-- A frame without its last bit is none. -/
theorem hit_short {P : ByteArray} (h100 : P.size ≤ 100) : hitB ((frmS P).extract 0 (22 + P.size)) 0 = false := by
  have hs : ((frmS P).extract 0 (22 + P.size)).size = 22 + P.size := by rw [size_extract _ _ _ (by rw [frmS_size]; omega)]; omega
  have hn : nAt ((frmS P).extract 0 (22 + P.size)) 0 = P.size := by
    have e : nAt ((frmS P).extract 0 (22 + P.size)) 0 = numF (digF P.size 7) 7 := numF_congr 7 fun i hi => by
      show zb ((frmS P).extract 0 (22 + P.size)) (0 + 8 + i) = _
      rw [zb_extract _ _ _ _ (by rw [frmS_size]; omega) (by omega), show 0 + (0 + 8 + i) = 8 + i by omega, zb_frm_num hi]
    rw [e, num_dig _ (by omega)]
  apply hit_no
  rintro ⟨_, _, h3, _⟩
  rw [hn, hs] at h3
  omega
end Go.Proofs.YtdafepfjjmdkeaaDoor
namespace Go.Proofs.YtdafepfjjmdkeaaDoor
open Go.RowKit
set_option linter.unusedVariables false
set_option maxRecDepth 100000
theorem hit_pay2 {z : ByteArray} {a : Nat} (hb : bitsB z = true) (h : hitB z a = true) : payB (parP z a) = true := by
  obtain ⟨h1, h2, h3, h4⟩ := (hitB_iff z a).1 h
  have ho := (bits_of2 hb).1
  have hs : (parP z a).size = nAt z a := by unfold parP; rw [size_extract _ _ _ (by omega)]; omega
  exact (payB_iff _).2 ⟨bits_mk (ok_part ho _ _ (by omega)) (by rw [hs]; omega), by rw [hs]; exact h2⟩
theorem two_frames {P Q : ByteArray} (hP : payB P = true) (hQ : payB Q = true) : bitsB (frmS P ++ frmS Q) = true ∧ AllIs (frmS P ++ frmS Q) 2 ∧ alF (frmS P ++ frmS Q) 0 = P ∧ alF (frmS P ++ frmS Q) 1 = Q := by
  obtain ⟨p1, p2⟩ := (payB_iff P).1 hP
  obtain ⟨q1, q2⟩ := (payB_iff Q).1 hQ
  have op := (bits_of2 p1).1
  have oq := (bits_of2 q1).1
  have sp := frmS_size P
  have sq := frmS_size Q
  have sx : (frmS P ++ frmS Q).size = (23 + P.size) + (23 + Q.size) := by rw [ByteArray.size_append, sp, sq]
  have hX : bitsB (frmS P ++ frmS Q) = true := bits_mk (ok_append (frmS_ok op) (frmS_ok oq)) (by rw [sx]; omega)
  obtain ⟨a1, a2, a3⟩ := hit_frame (P := P) (G := frmS P ++ frmS Q) (m := 0) p2 (by rw [sx]; omega) (fun i hi => by
    rw [Nat.zero_add]; exact zb_append_left _ _ _ (by rw [sp]; exact hi))
  obtain ⟨b1, b2, b3⟩ := hit_frame (P := Q) (G := frmS P ++ frmS Q) (m := 23 + P.size) q2 (by rw [sx]; omega) (fun i hi => by
    rw [zb_append_right _ _ _ (by rw [sp]; omega) (by rw [sp, sq]; omega), sp, Nat.add_sub_cancel_left])
  obtain ⟨X, hXX⟩ : ∃ X, frmS P ++ frmS Q = X := ⟨_, rfl⟩
  rw [hXX] at sx hX a1 a2 a3 b1 b2 b3 ⊢
  have n0 : nx X (atF X 0) = 0 := nx_hit a1
  have e1 : atF X 1 = 23 + P.size := by
    show endF X (nx X (atF X 0)) = _
    rw [n0]; unfold endF; rw [a3, Nat.zero_add]
  have n1 : nx X (atF X 1) = 23 + P.size := by rw [e1]; exact nx_hit b1
  have e2 : atF X 2 = X.size := by
    show endF X (nx X (atF X 1)) = _
    rw [n1]; unfold endF; rw [b3, sx]; omega
  refine ⟨hX, ⟨by omega, fun i hi => ?_, by rw [e2, nx_end (Nat.le_refl _)]; exact Nat.le_refl _⟩, ?_, ?_⟩
  · have : i = 0 ∨ i = 1 := by omega
    rcases this with rfl | rfl
    · rw [n0, sx]; omega
    · rw [n1, sx]; omega
  · unfold alF; rw [n0, a2]
  · unfold alF; rw [n1, b2]
end Go.Proofs.YtdafepfjjmdkeaaDoor
