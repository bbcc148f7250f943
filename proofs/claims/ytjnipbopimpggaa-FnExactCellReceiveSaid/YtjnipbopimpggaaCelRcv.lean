/- CellReceive of both sides. -/
import Derived.Test.YtjnipbopimpggaaCelIx
import Derived.Test.YtjnipbopimpggaaCel4
import Derived.Test.YtjnipbopimpggaaFam4
import Derived.Test.YtjnipbopimpggaaSig9
namespace Go.Proofs.Ytjnipbopimpggaa
open Go.RowKit
set_option linter.unusedVariables false
set_option maxRecDepth 100000
/-- The code of the station at an index. -/
def cdS (f : Nat → Usr) (k : Nat) : ByteArray := treeS (f k).data (f k).data.size
/-- What is heard of a station. -/
def crAns (n : Nat) (f : Nat → Usr) (m : Nat) (s : Nat → Int) (z : ByteArray) (c : Int) : ByteArray × Bool :=
  if cellB n f = true then (if 0 ≤ ixN n f z then rvAns m s (cdS f (ixN n f z).toNat) 0 c else noS) else noS
theorem cr_no {n : Nat} {f : Nat → Usr} {m : Nat} {s : Nat → Int} {z : ByteArray} {c : Int} (h : cellB n f = false) : crAns n f m s z c = noS := by unfold crAns; rw [h]; rfl
theorem cr_out {n : Nat} {f : Nat → Usr} {m : Nat} {s : Nat → Int} {z : ByteArray} {c : Int} (h : ¬ 0 ≤ ixN n f z) : crAns n f m s z c = noS := by
  unfold crAns; rw [if_neg h]; split <;> rfl
theorem cr_yes {n : Nat} {f : Nat → Usr} {m : Nat} {s : Nat → Int} {z : ByteArray} {c : Int} {k : Nat} (h : cellB n f = true) (h0 : ixN n f z = (k : Int)) : crAns n f m s z c = rvAns m s (cdS f k) 0 c := by
  unfold crAns; rw [h, if_pos rfl, if_pos (by omega), h0, Int.toNat_natCast]
theorem cell_of {n k : Nat} {f : Nat → Usr} (h : cellB n f = true) (hk : k < n) : pathB (f k).data = true := by
  unfold cellB at h
  simp only [Bool.and_eq_true] at h
  exact ((stnB_iff _ _ _ _).1 (celN_at n h.1 hk)).2.1
theorem cdS_size {f : Nat → Usr} {k : Nat} (h : pathB (f k).data = true) : (cdS f k).size ≤ 64 := by
  unfold cdS; rw [treeS_size]; exact tw_6 _ ((pathB_iff _).1 h).2
theorem tree_code {p : ByteArray} (h : pathB p = true) : treeAns p = (treeS p p.size, true) := by unfold treeAns; rw [h]; rfl
set_option maxHeartbeats 1600000 in
theorem iCR_any (v : Value) (n : Nat) (f : Nat → Usr) (u : Value) (m : Nat) (s : Nat → Int) (z : ByteArray) (c : Int) (w : World) (h : UsrsC w v n f) (hn : n ≤ 1048576) (hf : UsrSz n f) (hu : IntsC w u m s) (hm : m ≤ 1048576) (_ : z.size ≤ 1048576) :
    Calls Try.prog 36 #[v, u, .string z, .int .i64 c] w fun e w' => e = .returned (.tuple #[.string (crAns n f m s z c).1, .bool (crAns n f m s z c).2]) ∧ Below w.heap.size w w' := by
  have HV := Lib.hid (fun w h => iCell_any v n f w h hn hf)
  have HX := Lib.hid (fun w h => indexOf_any v n f z w h hn)
  have HI := Lib.hid h
  have HU := Lib.hid hu
  have hbd := ixN_bd n f z
  have hou := fun h => cr_out (n := n) (f := f) (m := m) (s := s) (z := z) (c := c) h
  have hys := fun k h h0 => cr_yes (n := n) (f := f) (m := m) (s := s) (z := z) (c := c) (k := k) h h0
  have hno := fun h => cr_no (n := n) (f := f) (m := m) (s := s) (z := z) (c := c) h
  obtain ⟨R, hR⟩ : ∃ R, ixN n f z = R := ⟨_, rfl⟩
  rw [hR] at HX hbd hou hys
  obtain ⟨A, hA⟩ : ∃ A, crAns n f m s z c = A := ⟨_, rfl⟩
  rw [hA] at hou hys hno ⊢
  clear hR hA hu
  by_cases r0 : 0 ≤ R
  · have r1 : ¬ R < 0 := by omega
    cases h1 : cellB n f with
    | false =>
      have e1 := hno h1
      subst e1
      rw [h1] at HV
      clear hno hou hys h1
      obtain ⟨a, cap, rfl, -⟩ := h
      go_enter Try.func36, Try.ntmps36
      go_wp2_with fail
      refine (HX.out _ HI.out).mono ?_
      rintro e w1 ⟨rfl, b1⟩
      go_wp2_with fail
      refine (HV.out _ (HI.out.below b1)).mono ?_
      rintro e w2 ⟨rfl, n2⟩
      have b2 := below_then b1 (Nat.le_refl _) n2
      clear b1 n2
      go_wp2
      go_ret2
      exact ⟨rfl, b2⟩
    | true =>
      obtain ⟨k, rfl⟩ := Int.eq_ofNat_of_zero_le r0
      have e1 := hys k h1 rfl
      subst e1
      have hk : k < n := by omega
      have hp := cell_of h1 hk
      have hsz := cdS_size hp
      rw [h1] at HV
      have HT := Lib.hid (fun w => iTree_any (f k).data w (by have := (hf k hk).2; omega))
      rw [tree_code hp] at HT
      have HR := Lib.hid (fun w h => iRecv_any u m s (cdS f k) 0 c w h hm (by omega))
      unfold cdS at HR ⊢
      obtain ⟨X, hX⟩ : ∃ X, treeS (f k).data (f k).data.size = X := ⟨_, rfl⟩
      rw [hX] at HT HR ⊢
      obtain ⟨Y, hY⟩ : ∃ Y, (rvAns m s X 0 c).1 = Y := ⟨_, rfl⟩
      obtain ⟨K, hK⟩ : ∃ Y, (rvAns m s X 0 c).2 = Y := ⟨_, rfl⟩
      rw [hY, hK] at HR ⊢
      clear hno hou hys h1 hX hY hK hp hsz
      obtain ⟨a, cap, rfl, -, hcc⟩ := id h
      obtain ⟨b, o, rfl, hx, hc4⟩ := hcc k hk
      clear hcc h
      have i0 : (0 : Int) ≤ (k : Int) := by omega
      have i1 : (k : Int) < (n : Int) := by omega
      go_enter Try.func36, Try.ntmps36
      go_wp2_with fail
      refine (HX.out _ HI.out).mono ?_
      rintro e w1 ⟨rfl, b1⟩
      go_wp2_with fail
      refine (HV.out _ (HI.out.below b1)).mono ?_
      rintro e w2 ⟨rfl, n2⟩
      have b2 := below_then b1 (Nat.le_refl _) n2
      clear b1 n2
      obtain ⟨-, c1, -, -⟩ := hc4.below b2 hx
      obtain ⟨P, hP⟩ : ∃ P, (f k).data = P := ⟨_, rfl⟩
      rw [hP] at HT c1
      clear hP
      go_wp2_with fail
      refine (HT.out _).mono ?_
      rintro e w3 ⟨rfl, n3⟩
      have b3 := below_then b2 (Nat.le_refl _) n3
      clear b2 n3 c1
      go_wp2_with fail
      refine (HR.out _ (HU.out.below b3)).mono ?_
      rintro e w4 ⟨rfl, n4⟩
      have b4 := below_then b3 (Nat.le_refl _) n4
      clear b3 n4
      go_wp2
      go_ret2
      exact ⟨rfl, b4⟩
  · have e1 := hou r0
    subst e1
    have r1 : R < 0 := by omega
    clear hno hou hys
    obtain ⟨a, cap, rfl, -⟩ := h
    go_enter Try.func36, Try.ntmps36
    go_wp2_with fail
    refine (HX.out _ HI.out).mono ?_
    rintro e w1 ⟨rfl, b1⟩
    go_wp2
    go_ret2
    exact ⟨rfl, b1⟩
set_option maxHeartbeats 1600000 in
theorem sCR_any (v : Value) (n : Nat) (f : Nat → Usr) (u : Value) (m : Nat) (s : Nat → Int) (z : ByteArray) (c : Int) (w : World) (h : UsrsC w v n f) (hn : n ≤ 1048576) (hf : UsrSz n f) (hu : IntsC w u m s) (hm : m ≤ 1048576) (_ : z.size ≤ 1048576) :
    Calls Try.prog 34 #[v, u, .string z, .int .i64 c] w fun e w' => e = .returned (.tuple #[.string (crAns n f m s z c).1, .bool (crAns n f m s z c).2]) ∧ Below w.heap.size w w' := by
  have HV := Lib.hid (fun w h => sCell_any v n f w h hn hf)
  have HX := Lib.hid (fun w h => l8Index_any v n f z w h hn)
  have HI := Lib.hid h
  have HU := Lib.hid hu
  have hbd := ixN_bd n f z
  have hou := fun h => cr_out (n := n) (f := f) (m := m) (s := s) (z := z) (c := c) h
  have hys := fun k h h0 => cr_yes (n := n) (f := f) (m := m) (s := s) (z := z) (c := c) (k := k) h h0
  have hno := fun h => cr_no (n := n) (f := f) (m := m) (s := s) (z := z) (c := c) h
  obtain ⟨R, hR⟩ : ∃ R, ixN n f z = R := ⟨_, rfl⟩
  rw [hR] at HX hbd hou hys
  obtain ⟨A, hA⟩ : ∃ A, crAns n f m s z c = A := ⟨_, rfl⟩
  rw [hA] at hou hys hno ⊢
  clear hR hA hu
  cases h1 : cellB n f with
  | false =>
    have e1 := hno h1
    subst e1
    rw [h1] at HV
    clear hno hou hys h1
    obtain ⟨a, cap, rfl, -⟩ := h
    go_enter Try.func34, Try.ntmps34
    go_wp2_with fail
    refine (HX.out _ HI.out).mono ?_
    rintro e w' ⟨rfl, rfl⟩
    go_wp2_with fail
    refine (HV.out _ HI.out).mono ?_
    rintro e w2 ⟨rfl, b2⟩
    go_wp2
    go_ret2
    exact ⟨rfl, b2⟩
  | true =>
    rw [h1] at HV
    by_cases r0 : 0 ≤ R
    · have r1 : ¬ R < 0 := by omega
      obtain ⟨k, rfl⟩ := Int.eq_ofNat_of_zero_le r0
      have e1 := hys k h1 rfl
      subst e1
      have hk : k < n := by omega
      have hp := cell_of h1 hk
      have hsz := cdS_size hp
      have HT := Lib.hid (fun w => l3Tree_any (f k).data w hp)
      have HR := Lib.hid (fun w h => sRecv_any u m s (cdS f k) 0 c w h hm (by omega))
      unfold cdS at HR ⊢
      obtain ⟨X, hX⟩ : ∃ X, treeS (f k).data (f k).data.size = X := ⟨_, rfl⟩
      rw [hX] at HT HR ⊢
      obtain ⟨Y, hY⟩ : ∃ Y, (rvAns m s X 0 c).1 = Y := ⟨_, rfl⟩
      obtain ⟨K, hK⟩ : ∃ Y, (rvAns m s X 0 c).2 = Y := ⟨_, rfl⟩
      rw [hY, hK] at HR ⊢
      clear hno hou hys h1 hX hY hK hp hsz
      obtain ⟨a, cap, rfl, -, hcc⟩ := id h
      obtain ⟨b, o, rfl, hx, hc4⟩ := hcc k hk
      clear hcc h
      have i0 : (0 : Int) ≤ (k : Int) := by omega
      have i1 : (k : Int) < (n : Int) := by omega
      go_enter Try.func34, Try.ntmps34
      go_wp2_with fail
      refine (HX.out _ HI.out).mono ?_
      rintro e w' ⟨rfl, rfl⟩
      go_wp2_with fail
      refine (HV.out _ HI.out).mono ?_
      rintro e w2 ⟨rfl, b2⟩
      obtain ⟨-, c1, -, -⟩ := hc4.below b2 hx
      obtain ⟨P, hP⟩ : ∃ P, (f k).data = P := ⟨_, rfl⟩
      rw [hP] at HT c1
      clear hP
      go_wp2_with fail
      refine (HT.out _).mono ?_
      rintro e w3 ⟨rfl, n3⟩
      have b3 := below_then b2 (Nat.le_refl _) n3
      clear b2 n3 c1
      go_wp2_with fail
      refine (HR.out _ (HU.out.below b3).ints).mono ?_
      rintro e w4 ⟨rfl, n4⟩
      have b4 := below_then b3 (Nat.le_refl _) n4
      clear b3 n4
      go_wp2
      go_ret2
      exact ⟨rfl, b4⟩
    · have e1 := hou r0
      subst e1
      have r1 : R < 0 := by omega
      clear hno hou hys h1
      obtain ⟨a, cap, rfl, -⟩ := h
      go_enter Try.func34, Try.ntmps34
      go_wp2_with fail
      refine (HX.out _ HI.out).mono ?_
      rintro e w' ⟨rfl, rfl⟩
      go_wp2_with fail
      refine (HV.out _ HI.out).mono ?_
      rintro e w2 ⟨rfl, b2⟩
      go_wp2
      go_ret2
      exact ⟨rfl, b2⟩
end Go.Proofs.Ytjnipbopimpggaa
