/- The walk of the law FnFrame. -/
import Derived.Test.YtkpiloefmhhclaaDrawFrm
import Derived.Test.YtkpiloefmhhclaaFrm11
import Derived.Test.YtkpiloefmhhclaaZer
namespace Go.Proofs.Ytkpiloefmhhclaa
open Go.RowKit
set_option linter.unusedVariables false
set_option maxRecDepth 100000
theorem num_dig (n : Nat) (h : n < 128) : numF (digF n 7) 7 = n := by
  show 2 * (2 * (2 * (2 * (2 * (2 * (2 * 0 + (48 + n / 64 % 2 - 48)) + (48 + n / 32 % 2 - 48)) + (48 + n / 16 % 2 - 48)) + (48 + n / 8 % 2 - 48)) + (48 + n / 4 % 2 - 48)) + (48 + n / 2 % 2 - 48)) + (48 + n / 1 % 2 - 48) = n
  omega
theorem zb_frm_num {z : ByteArray} {i : Nat} (hi : i < 7) : zb (frmS z) (8 + i) = digF z.size 7 i := by
  have s8 : (⟨#[49, 49, 49, 48, 49, 48, 48, 48]⟩ : ByteArray).size = 8 := rfl
  unfold frmS
  rw [zb_append_left _ _ _ (by rw [ByteArray.size_append, innS_size, s8]; omega), zb_append_right _ _ _ (by rw [s8]; omega) (by rw [innS_size, s8]; omega), s8, Nat.add_sub_cancel_left]
  unfold innS
  rw [zb_append_left _ _ _ (by rw [digS_size]; exact hi)]
  exact zb_strF hi (digF_lt _ _ _)
theorem zb_frm_pay {z : ByteArray} {i : Nat} (hi : i < z.size) : zb (frmS z) (15 + i) = zb z i := by
  have s8 : (⟨#[49, 49, 49, 48, 49, 48, 48, 48]⟩ : ByteArray).size = 8 := rfl
  unfold frmS
  rw [zb_append_left _ _ _ (by rw [ByteArray.size_append, innS_size, s8]; omega), zb_append_right _ _ _ (by rw [s8]; omega) (by rw [innS_size, s8]; omega), s8, show 15 + i - 8 = 7 + i by omega]
  unfold innS
  rw [zb_append_right _ _ _ (by rw [digS_size]; omega) (by rw [digS_size]; omega), digS_size, Nat.add_sub_cancel_left]
/-- A frame that stands in bits is read. -/
theorem hit_frame {P G : ByteArray} {m : Nat} (h100 : P.size ≤ 100) (hG : m + (23 + P.size) ≤ G.size) (hz : ∀ i, i < 23 + P.size → zb G (m + i) = zb (frmS P) i) :
    hitB G m = true ∧ parP G m = P ∧ nAt G m = P.size := by
  have hn : nAt G m = P.size := by
    have e : nAt G m = numF (digF P.size 7) 7 := numF_congr 7 fun i hi => by
      show zb G (m + 8 + i) = _
      rw [Nat.add_assoc, hz (8 + i) (by omega), zb_frm_num hi]
    rw [e, num_dig _ (by omega)]
  have hp : parP G m = P := by
    unfold parP
    rw [hn]
    have s := size_extract G (m + 15) (m + 15 + P.size) (by omega)
    refine ba_ext (by rw [s]; omega) fun i hi => ?_
    rw [s] at hi
    rw [zb_extract _ _ _ _ (by omega) (by omega), Nat.add_assoc, hz (15 + i) (by omega), zb_frm_pay (by omega)]
  refine ⟨(hitB_iff G m).2 ⟨by omega, by omega, by omega, ?_⟩, hp, hn⟩
  rw [hp, hn]
  have s := size_extract G m (m + 23 + P.size) (by omega)
  refine ba_ext (by rw [s, frmS_size]; omega) fun i hi => ?_
  rw [frmS_size] at hi
  rw [zb_extract _ _ _ _ (by omega) (by omega), hz i hi]
theorem zb_three {Z F : ByteArray} {i : Nat} (hi : i < F.size) : zb ((Z ++ F) ++ Z) (Z.size + i) = zb F i := by
  rw [zb_append_left _ _ _ (by rw [ByteArray.size_append]; omega), zb_append_right _ _ _ (by omega) (by omega), Nat.add_sub_cancel_left]
/-- A frame without its last bit is none. -/
theorem hit_short {P : ByteArray} (h100 : P.size ≤ 100) : hitB ((frmS P).extract 0 (22 + P.size)) 0 = false := by
  have hs : ((frmS P).extract 0 (22 + P.size)).size = 22 + P.size := by rw [size_extract _ _ _ (by rw [frmS_size]; omega)]; omega
  have hn : nAt ((frmS P).extract 0 (22 + P.size)) 0 = P.size := by
    have e : nAt ((frmS P).extract 0 (22 + P.size)) 0 = numF (digF P.size 7) 7 := numF_congr 7 fun i hi => by
      show zb ((frmS P).extract 0 (22 + P.size)) (0 + 8 + i) = _
      rw [zb_extract _ _ _ _ (by rw [frmS_size]; omega) (by omega), show 0 + (0 + 8 + i) = 8 + i by omega, zb_frm_num hi]
    rw [e, num_dig _ (by omega)]
  apply hit_no
  rintro ⟨_, _, h3, _⟩
  rw [hn, hs] at h3
  omega
set_option maxHeartbeats 1600000 in
theorem drawFrm_any (a : Option Addr) (len cap : Nat) (zs : List Int) (w : World) (h : IsBytes w a len cap zs) :
    Calls Try.prog 25 #[.slice a len cap] w (DrawBits w) := by
  go_enter Try.func25, Try.ntmps25
  go_wp2_with fail
  refine (open_any a len cap zs _ h).mono ?_
  rintro e w1 ⟨b, ys, rfl, hr, hb, hlb⟩
  go_wp2_with fail
  refine (pick_any b 0 16 ys _ hr (by omega) (by omega) (by omega)).mono ?_
  rintro e w2 ⟨k, hk, rfl, hr2, hg2⟩
  have b2 := below_grown hb (Nat.le_refl _) hg2 hlb
  clear hr hb hg2
  rcases Nat.eq_zero_or_pos k with e0 | e0
  · subst e0
    go_wp2_with fail
    refine (num_any b _ ys _ w2.heap.size 2 [100, 101] (hr2.alloc _) (IntsAt.new w2 _ [100, 101]) rfl hr2.1 (by omega) (by omega) (by omega)).mono ?_
    rintro e w3 ⟨v, hv, rfl, hr3, hg3⟩
    obtain ⟨s, rfl, hs5⟩ : ∃ s : Nat, v = s ∧ s ≤ 101 := by
      simp only [List.mem_cons, List.not_mem_nil, or_false] at hv
      exact ⟨v.toNat, by omega, by omega⟩
    have b3 := below_grown (b2.alloc b2.size _) (Nat.le_refl _) hg3 hlb
    have hM := fun w => l9Many_any ⟨#[49]⟩ s w (by show 1 * s ≤ _; omega) (by omega)
    have hsz := many_byte_size 49 s
    obtain ⟨Z, hZ⟩ : ∃ Z, many ⟨#[49]⟩ s = Z := ⟨_, rfl⟩
    rw [hZ] at hM hsz
    have HM := Lib.hid hM
    have HZ := Lib.hid (show Z.size ≤ 700 by omega)
    clear hv hr2 b2 hg3 hM hsz hZ hr3
    go_wp2_with fail
    refine (HM.out _).mono ?_
    rintro e w' ⟨rfl, rfl⟩
    go_wp2
    go_ret
    exact ⟨Z, rfl, HZ.out, b3⟩
  · have t2 : ((k : Int) == 0) = false := beq_eq_false_iff_ne.2 (by omega)
    go_wp2_with fail
    refine (l1String_any b _ 40 ys _ hr2 (by omega) (by omega)).mono ?_
    rintro e w3 ⟨z, q, rfl, hz, hq, hr3, hg3⟩
    have b3 := below_grown b2 (Nat.le_refl _) hg3 hlb
    clear hr2 b2 hg3
    go_wp2_with fail
    refine (l6Wild_any b q ys z _ hr3 (by omega) (by omega)).mono ?_
    rintro e w4 ⟨y, q2, rfl, hy, hq2, hr4, hg4⟩
    have b4 := below_grown b3 (Nat.le_refl _) hg4 hlb
    clear hr3 b3 hg4
    go_wp2
    go_ret
    exact ⟨y, rfl, hy, b4⟩
set_option maxHeartbeats 1000000 in
theorem fnFrame_walk (a0 : Option Addr) (len0 cap0 : Nat) (z0 : List Int) (a1 : Option Addr) (len1 cap1 : Nat) (z1 : List Int) (w : World) (w0 : IsBytes w a0 len0 cap0 z0) (_ : IsBytes w a1 len1 cap1 z1) :
    Calls Try.prog 7 #[.slice a0 len0 cap0, .slice a1 len1 cap1] w fun e w' => e = .returned (.bool true) ∧ Below w.heap.size w w' := by
  by_cases hl : 1048576 < len0
  · go_enter Try.func7, Try.ntmps7
    go_wp2
    go_ret
    exact ⟨rfl, Below.refl _ _⟩
  by_cases hl1 : 1048576 < len1
  · go_enter Try.func7, Try.ntmps7
    go_wp2
    go_ret
    exact ⟨rfl, Below.refl _ _⟩
  go_enter Try.func7, Try.ntmps7
  go_wp2_with fail
  refine (drawFrm_any a0 len0 cap0 z0 _ w0).mono ?_
  rintro e W1 ⟨z, rfl, hz, b1⟩
  clear w0
  have hI := fun w => iFrame_any z w (by omega)
  have hS := fun w => sFrame_any z w (by omega)
  cases hp : payB z with
  | false =>
    rw [show frmAns z = noS by unfold frmAns; rw [hp]; rfl] at hI hS
    have HI := Lib.hid hI
    have HS := Lib.hid hS
    clear hI hS hp
    go_wp2_with fail
    refine (HI.out _).mono ?_
    rintro e w' ⟨rfl, hB⟩
    have c1 := below_then b1 (Nat.le_refl _) hB
    clear hB b1
    go_wp2_with fail
    refine (HS.out _).mono ?_
    rintro e w' ⟨rfl, hB⟩
    have c2 := below_then c1 (Nat.le_refl _) hB
    clear hB c1
    go_wp2
    go_ret
    exact ⟨rfl, c2⟩
  | true =>
    rw [show frmAns z = (frmS z, true) by unfold frmAns; rw [hp]; rfl] at hI hS
    obtain ⟨hbz, h100⟩ := (payB_iff z).1 hp
    have ho := (bits_of hbz).1
    have hfo := frmS_ok ho
    have hfs := frmS_size z
    obtain ⟨m, hm⟩ : ∃ m, len1 % 30 = m := ⟨_, rfl⟩
    have hm30 : m < 30 := by omega
    have hmod : (len1 : Int) % 30 = (m : Int) := by omega
    have HZ := Lib.hid (fun w => ssZer_any m w (by omega))
    have hzs := zroS_size m
    have hgs : ((zroS m ++ frmS z) ++ zroS m).size = m + (23 + z.size) + m := by rw [ByteArray.size_append, ByteArray.size_append, hzs, hfs]
    have hgo : okB ((zroS m ++ frmS z) ++ zroS m) ((zroS m ++ frmS z) ++ zroS m).size = true := ok_append (ok_append (zroS_ok m) hfo) (zroS_ok m)
    have hgb := bits_mk hgo (by rw [hgs]; omega)
    obtain ⟨hh, hpp, hnn⟩ := hit_frame (P := z) (G := (zroS m ++ frmS z) ++ zroS m) (m := m) h100 (by rw [hgs]; omega) (fun i hi => by
      have := zb_three (Z := zroS m) (F := frmS z) (i := i) (by rw [hfs]; exact hi)
      rw [hzs] at this; exact this)
    have HP := Lib.hid (fun w => iParse_any ((zroS m ++ frmS z) ++ zroS m) (m : Int) w (by rw [hgs]; omega))
    rw [par_yes hgb hh, hpp, hnn] at HP
    have hss : ((frmS z).extract 0 (22 + z.size)).size = 22 + z.size := by rw [size_extract _ _ _ (by rw [hfs]; omega)]; omega
    have HQ := Lib.hid (fun w => iParse_any ((frmS z).extract 0 (22 + z.size)) 0 w (by rw [hss]; omega))
    rw [par_no (z := (frmS z).extract 0 (22 + z.size)) (k := 0) (fun h => by rw [show (0 : Int).toNat = 0 from rfl, hit_short h100] at h; exact absurd h.2.2.2 (by simp))] at HQ
    obtain ⟨N, hN⟩ : ∃ N, 22 + z.size = N := ⟨_, rfl⟩
    rw [hN] at HQ
    obtain ⟨E, hE⟩ : ∃ N, m + 23 + z.size = N := ⟨_, rfl⟩
    rw [hE] at HP
    obtain ⟨F, hF⟩ : ∃ F, frmS z = F := ⟨_, rfl⟩
    rw [hF] at hI hS hfs HP HQ hgs
    obtain ⟨Z, hZ⟩ : ∃ Z, zroS m = Z := ⟨_, rfl⟩
    rw [hZ] at HZ hzs HP hgs
    obtain ⟨Q, hQ⟩ : ∃ Q, F.extract 0 N = Q := ⟨_, rfl⟩
    rw [hQ] at HQ
    have HI := Lib.hid hI
    have HS := Lib.hid hS
    have v1 : (F.size : Int) - 1 = (N : Int) := by omega
    have i1 : (N : Int) ≤ (F.size : Int) := by omega
    have i2 : (0 : Int) ≤ (N : Int) := by omega
    have t1 : ((E : Int) == (m : Int) + (F.size : Int)) = true := beq_iff_eq.2 (by omega)
    have t2 : ((F.size : Int) == 23 + (z.size : Int)) = true := beq_iff_eq.2 (by omega)
    have hzi : (Z.size : Int) = (m : Int) := by omega
    have q1 : Z.size + F.size ≤ 9223372036854775807 := by omega
    have q2 : F.size ≤ 200 := by omega
    have q3 : z.size ≤ 200 := by omega
    have q4 : (Z ++ F).size + Z.size ≤ 9223372036854775807 := by rw [ByteArray.size_append]; omega
    clear hI hS hp hbz ho hfo hm hgo hgb hh hpp hnn hss hF hZ hgs h100 hE hN hfs hzs
    go_wp2_with fail
    refine (HI.out _).mono ?_
    rintro e w' ⟨rfl, hB⟩
    have c1 := below_then b1 (Nat.le_refl _) hB
    clear hB b1
    go_wp2_with fail
    refine (HS.out _).mono ?_
    rintro e w' ⟨rfl, hB⟩
    have c2 := below_then c1 (Nat.le_refl _) hB
    clear hB c1
    go_wp2_with fail
    refine (HZ.out _).mono ?_
    rintro e w' ⟨rfl, hB⟩
    have c3 := below_then c2 (Nat.le_refl _) hB
    clear hB c2 hmod
    go_wp2_with fail
    refine (HP.out _).mono ?_
    rintro e w' ⟨rfl, hB⟩
    have c4 := below_then c3 (Nat.le_refl _) hB
    clear hB c3
    go_wp2_with fail
    refine (HQ.out _).mono ?_
    rintro e w' ⟨rfl, hB⟩
    have c5 := below_then c4 (Nat.le_refl _) hB
    clear hB c4
    go_wp2
    go_ret
    exact ⟨rfl, c5⟩
end Go.Proofs.Ytkpiloefmhhclaa
