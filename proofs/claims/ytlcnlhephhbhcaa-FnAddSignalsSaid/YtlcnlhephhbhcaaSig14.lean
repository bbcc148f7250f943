/- AddSignals of both sides. -/
import Derived.Test.YtlcnlhephhbhcaaSig13
namespace Go.Proofs.Ytlcnlhephhbhcaa
open Go.RowKit
set_option linter.unusedVariables false
set_option maxRecDepth 100000
def adOK (n : Nat) (f : Nat → Int) (m : Nat) (g : Nat → Int) : Bool := sigB n f && (sigB m g && sigB (max n m) (agF n f m g))
def adN (n : Nat) (f : Nat → Int) (m : Nat) (g : Nat → Int) : Nat := if adOK n f m g then max n m else 0
theorem adN_le6 (n : Nat) (f : Nat → Int) (m : Nat) (g : Nat → Int) : adN n f m g ≤ 1000000 := by
  unfold adN adOK
  split
  · rename_i h
    simp only [Bool.and_eq_true] at h
    have := ((sigB_iff _ _).1 h.2.2).2
    omega
  · omega
theorem ad_in {n : Nat} {f : Nat → Int} {m : Nat} {g : Nat → Int} (h1 : sigB n f = true) (h2 : sigB m g = true) : adN n f m g = resN (max n m) (agF n f m g) ∧ adOK n f m g = sigB (max n m) (agF n f m g) := by
  unfold adN adOK resN; rw [h1, h2]; simp
theorem ad_out {n : Nat} {f : Nat → Int} {m : Nat} {g : Nat → Int} (h : ¬ (sigB n f = true ∧ sigB m g = true)) : adN n f m g = 0 ∧ adOK n f m g = false := by
  have : adOK n f m g = false := by
    unfold adOK
    cases h1 : sigB n f with
    | false => rfl
    | true =>
      cases h2 : sigB m g with
      | false => rfl
      | true => exact absurd ⟨h1, h2⟩ h
  exact ⟨by unfold adN; rw [this]; rfl, this⟩
def two (α : Type) (x y : α) (i : Nat) : α := if i = 0 then x else y
theorem mx_two (n m : Nat) : mxN (two Nat n m) 2 = max n m := by simp [mxN, two]
theorem sm_two (n : Nat) (f : Nat → Int) (m : Nat) (g : Nat → Int) : smF (two Nat n m) (two (Nat → Int) f g) 2 = agF n f m g := by
  funext j
  simp [smF, sumI, two, agF]
set_option maxHeartbeats 800000 in
set_option maxRecDepth 100000 in
theorem iAddSig_yes (v u : Value) (n m : Nat) (f g : Nat → Int) (w : World) (hv : IntsR w v n f) (hu : IntsR w u m g) (h1 : sigB n f = true) (h2 : sigB m g = true) :
    Calls Try.prog 57 #[v, u] w fun e w' => ∃ x, e = .returned (.tuple #[x, .bool (sigB (max n m) (agF n f m g))]) ∧ OF w' w.heap.size x (resN (max n m) (agF n f m g)) (agF n f m g) ∧ Below w.heap.size w w' := by
  have n3 := ((sigB_iff _ _).1 h1).2
  have m3 := ((sigB_iff _ _).1 h2).2
  have hb1 := fun w h => iSig_any v n f w h (by omega)
  have hb2 := fun w h => iSig_any u m g w h (by omega)
  rw [h1] at hb1
  rw [h2] at hb2
  have HB1 := Lib.hid hb1
  have HB2 := Lib.hid hb2
  have HV := Lib.hid hv
  have HU := Lib.hid hu
  have hsp := fun x w h => superp_any x 2 (two Nat n m) (two (Nat → Int) f g) w h (by omega) (fun i hi => by
    have : i = 0 ∨ i = 1 := by omega
    rcases this with rfl | rfl
    · exact h1
    · exact h2)
  rw [mx_two, sm_two] at hsp
  have HSP := Lib.hid hsp
  obtain ⟨a, cap, rfl, -⟩ := hv
  obtain ⟨b, capb, rfl, -⟩ := hu
  have b0 := (Below.refl w.heap.size w).alloc (Nat.le_refl _) (.cells #[.slice a n cap, .slice b m capb] 31)
  have HS : Hid (SigsR (w.alloc (.cells #[.slice a n cap, .slice b m capb] 31)) (.slice (some ⟨w.heap.size, 0, none⟩) 2 2) 2 (two Nat n m) (two (Nat → Int) f g)) := Lib.hid (by
    refine ⟨_, _, rfl, fun i hi => ?_⟩
    have e : (⟨w.heap.size, 0, none⟩ : Addr).add i = ⟨w.heap.size, i, none⟩ := by unfold Addr.add; split <;> simp_all
    have : i = 0 ∨ i = 1 := by omega
    rcases this with rfl | rfl
    · exact ⟨_, _, rfl, by simp, by rw [e]; simp, HV.out.below b0⟩
    · exact ⟨_, _, rfl, by simp, by rw [e]; simp, HU.out.below b0⟩)
  have BB := Lib.hid b0
  clear hb1 hb2 hsp b0 h1 h2
  go_enter Try.func57, Try.ntmps57
  go_wp2_with fail
  refine (HB1.out _ HV.out).mono ?_
  rintro e w' ⟨rfl, rfl⟩
  go_wp2_with fail
  refine (HB2.out _ HU.out).mono ?_
  rintro e w' ⟨rfl, rfl⟩
  go_wp2_with fail
  refine (HSP.out _ _ HS.out).mono ?_
  rintro e w3 ⟨x, rfl, O3, b3⟩
  have c3 := below_then BB.out (Nat.le_refl _) b3
  have O4 := Lib.hid (O3.mono BB.out.size)
  clear O3 b3
  go_wp2
  go_ret2
  exact ⟨_, rfl, O4.out, c3⟩
set_option maxHeartbeats 800000 in
set_option maxRecDepth 100000 in
theorem iAddSig_any (v : Value) (n : Nat) (f : Nat → Int) (u : Value) (m : Nat) (g : Nat → Int) (w : World) (hv : IntsR w v n f) (hn : n ≤ 1048576) (hu : IntsR w u m g) (hm : m ≤ 1048576) :
    Calls Try.prog 57 #[v, u] w fun e w' => ∃ x, e = .returned (.tuple #[x, .bool (adOK n f m g)]) ∧ OF w' w.heap.size x (adN n f m g) (agF n f m g) ∧ Below w.heap.size w w' := by
  have hb1 := fun w h => iSig_any v n f w h hn
  have hb2 := fun w h => iSig_any u m g w h hm
  have HV := Lib.hid hv
  have HU := Lib.hid hu
  cases h1 : sigB n f with
  | true =>
    rw [h1] at hb1
    cases h2 : sigB m g with
    | true =>
      rw [h2] at hb2
      rw [(ad_in h1 h2).1, (ad_in h1 h2).2]
      exact iAddSig_yes v u n m f g w hv hu h1 h2
    | false =>
      obtain ⟨e1, e2⟩ := ad_out (n := n) (f := f) (m := m) (g := g) (by rw [h2]; simp)
      rw [e1, e2]
      rw [h2] at hb2
      have HB1 := Lib.hid hb1
      have HB2 := Lib.hid hb2
      clear hb1 hb2 h1 h2 hv hu e1 e2
      go_enter Try.func57, Try.ntmps57
      go_wp2_with fail
      refine (HB1.out _ HV.out).mono ?_
      rintro e w' ⟨rfl, rfl⟩
      go_wp2_with fail
      refine (HB2.out _ HU.out).mono ?_
      rintro e w' ⟨rfl, rfl⟩
      go_wp2
      go_ret2
      exact ⟨_, rfl, OF.nil _ _ _, Below.refl _ _⟩
  | false =>
    obtain ⟨e1, e2⟩ := ad_out (n := n) (f := f) (m := m) (g := g) (by rw [h1]; simp)
    rw [e1, e2]
    rw [h1] at hb1
    have HB1 := Lib.hid hb1
    clear hb1 hb2 h1 hv hu e1 e2
    go_enter Try.func57, Try.ntmps57
    go_wp2_with fail
    refine (HB1.out _ HV.out).mono ?_
    rintro e w' ⟨rfl, rfl⟩
    go_wp2
    go_ret2
    exact ⟨_, rfl, OF.nil _ _ _, Below.refl _ _⟩
set_option maxHeartbeats 800000 in
set_option maxRecDepth 100000 in
theorem sAddSig_any (v : Value) (n : Nat) (f : Nat → Int) (u : Value) (m : Nat) (g : Nat → Int) (w : World) (hv : IntsR w v n f) (hn : n ≤ 1048576) (hu : IntsR w u m g) (hm : m ≤ 1048576) :
    Calls Try.prog 58 #[v, u] w fun e w' => ∃ x, e = .returned (.tuple #[x, .bool (adOK n f m g)]) ∧ OF w' w.heap.size x (adN n f m g) (agF n f m g) ∧ Below w.heap.size w w' := by
  have hb1 := fun w h => sSig_any v n f w h hn
  have hb2 := fun w h => sSig_any u m g w h hm
  have HV := Lib.hid hv
  have HU := Lib.hid hu
  cases h1 : sigB n f with
  | true =>
    rw [h1] at hb1
    cases h2 : sigB m g with
    | true =>
      rw [h2] at hb2
      rw [(ad_in h1 h2).1, (ad_in h1 h2).2]
      have n3 := ((sigB_iff _ _).1 h1).2
      have m3 := ((sigB_iff _ _).1 h2).2
      have HL := Lib.hid (fun w hv hu => l4Add_any v u n m f g w hv hu (by omega) (by omega) (fun j => by have := smp_bd ((sigB_iff _ _).1 h1).1 j; omega) (fun j => by have := smp_bd ((sigB_iff _ _).1 h2).1 j; omega))
      have HF := Lib.hid (fun B x w h hB => sIf_any x B (max n m) (agF n f m g) w h (by omega) hB)
      have HB1 := Lib.hid hb1
      have HB2 := Lib.hid hb2
      clear hb1 hb2 h1 h2 hv hu
      go_enter Try.func58, Try.ntmps58
      go_wp2_with fail
      refine (HB1.out _ HV.out).mono ?_
      rintro e w' ⟨rfl, rfl⟩
      go_wp2_with fail
      refine (HB2.out _ HU.out).mono ?_
      rintro e w' ⟨rfl, rfl⟩
      go_wp2_with fail
      refine (HL.out _ HV.out HU.out).mono ?_
      rintro e w1 ⟨u1, rfl, O1, b1⟩
      go_wp2_with fail
      refine (HF.out _ _ _ O1 b1.size).mono ?_
      rintro e w2 ⟨u2, rfl, O2, b2⟩
      have c2 := below_then b1 (Nat.le_refl _) b2
      go_wp2
      go_ret2
      exact ⟨_, rfl, O2, c2⟩
    | false =>
      obtain ⟨e1, e2⟩ := ad_out (n := n) (f := f) (m := m) (g := g) (by rw [h2]; simp)
      rw [e1, e2]
      rw [h2] at hb2
      have HB1 := Lib.hid hb1
      have HB2 := Lib.hid hb2
      have O0 := Lib.hid (OF.empty0 w (agF n f m g))
      clear hb1 hb2 h1 h2 hv hu e1 e2
      go_enter Try.func58, Try.ntmps58
      go_wp2_with fail
      refine (HB1.out _ HV.out).mono ?_
      rintro e w' ⟨rfl, rfl⟩
      go_wp2_with fail
      refine (HB2.out _ HU.out).mono ?_
      rintro e w' ⟨rfl, rfl⟩
      go_wp2
      go_ret2
      exact ⟨_, rfl, O0.out, (Below.refl _ _).alloc (Nat.le_refl _) _⟩
  | false =>
    obtain ⟨e1, e2⟩ := ad_out (n := n) (f := f) (m := m) (g := g) (by rw [h1]; simp)
    rw [e1, e2]
    rw [h1] at hb1
    have HB1 := Lib.hid hb1
    have O0 := Lib.hid (OF.empty0 w (agF n f m g))
    clear hb1 hb2 h1 hv hu e1 e2
    go_enter Try.func58, Try.ntmps58
    go_wp2_with fail
    refine (HB1.out _ HV.out).mono ?_
    rintro e w' ⟨rfl, rfl⟩
    go_wp2
    go_ret2
    exact ⟨_, rfl, O0.out, (Below.refl _ _).alloc (Nat.le_refl _) _⟩
end Go.Proofs.Ytlcnlhephhbhcaa
