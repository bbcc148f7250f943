/- ReleaseStation of both sides. -/
import Derived.Test.YtjnipbopimpggabCelIx
import Derived.Test.YtjnipbopimpggabCel4
import Derived.Test.YtjnipbopimpggabCopied
import Derived.Test.YtjnipbopimpggabDel
namespace Go.Proofs.Ytjnipbopimpggab
open Go.RowKit
set_option linter.unusedVariables false
set_option maxRecDepth 100000
def rlB (n : Nat) (f : Nat → Usr) (z : ByteArray) : Bool := cellB n f && decide (0 ≤ ixN n f z)
def rlN (n : Nat) (f : Nat → Usr) (z : ByteArray) : Nat := if rlB n f z = true then n - 1 else 0
def rlF (n : Nat) (f : Nat → Usr) (z : ByteArray) : Nat → Usr := cutU f (ixN n f z).toNat
theorem rlN_le {n : Nat} {f : Nat → Usr} {z : ByteArray} (hn : n ≤ 1048576) : rlN n f z ≤ 1048576 := by unfold rlN; split <;> omega
theorem rl_no {n : Nat} {f : Nat → Usr} {z : ByteArray} (h : cellB n f = false) : rlB n f z = false := by unfold rlB; rw [h]; rfl
theorem rl_out {n : Nat} {f : Nat → Usr} {z : ByteArray} (h : ¬ 0 ≤ ixN n f z) : rlB n f z = false := by unfold rlB; rw [decide_eq_false h]; simp
theorem rl_yes {n : Nat} {f : Nat → Usr} {z : ByteArray} (h : cellB n f = true) (h0 : 0 ≤ ixN n f z) : rlB n f z = true := by unfold rlB; rw [h, decide_eq_true h0]; rfl
theorem cell_le8 {n : Nat} {f : Nat → Usr} (h : cellB n f = true) : n ≤ 8 := by
  unfold cellB at h
  simp only [Bool.and_eq_true, decide_eq_true_eq] at h
  exact h.2
set_option maxHeartbeats 3200000 in
theorem iRel_any (v : Value) (n : Nat) (f : Nat → Usr) (z : ByteArray) (w : World) (h : UsrsC w v n f) (hn : n ≤ 1048576) (hf : UsrSz n f) (_ : z.size ≤ 1048576) :
    Calls Try.prog 17 #[v, .string z] w fun e w' => ∃ u, e = .returned (.tuple #[u, .bool (rlB n f z)]) ∧ TF w' w.heap.size u (rlN n f z) (rlF n f z) ∧ Below w.heap.size w w' := by
  unfold rlN
  have HV0 := Lib.hid (fun w h => iCell_any v n f w h hn hf)
  have HX0 := Lib.hid (fun w h => indexOf_any v n f z w h hn)
  have HP := Lib.hid (fun w h => copied_any v n f w h hn hf)
  have HI := Lib.hid h
  have hbd := ixN_bd n f z
  have hno := fun h => rl_no (n := n) (f := f) (z := z) h
  have hou := fun h => rl_out (n := n) (f := f) (z := z) h
  have hys := fun h h0 => rl_yes (n := n) (f := f) (z := z) h h0
  unfold rlF
  obtain ⟨R, hR⟩ : ∃ R, ixN n f z = R := ⟨_, rfl⟩
  rw [hR] at HX0 hbd hou hys ⊢
  clear hR
  obtain ⟨T, hT⟩ : ∃ T, rlB n f z = T := ⟨_, rfl⟩
  rw [hT] at hno hou hys ⊢
  clear hT h
  by_cases r0 : 0 ≤ R
  · cases h1 : cellB n f with
    | false =>
      have e1 := hno h1
      subst e1
      rw [h1] at HV0
      clear hno hou hys h1
      obtain ⟨a, cap, rfl, -⟩ := HI.out
      have r1 : ¬ R < 0 := by omega
      go_enter Try.func17, Try.ntmps17
      go_wp2_with fail
      refine (HX0.out _ HI.out).mono ?_
      rintro e w1 ⟨rfl, b1⟩
      go_wp2_with fail
      refine (HV0.out _ (HI.out.below b1)).mono ?_
      rintro e w2 ⟨rfl, n2⟩
      have b2 := below_then b1 (Nat.le_refl _) n2
      clear b1 n2
      go_wp2
      go_ret2
      exact ⟨_, rfl, TF.nil _ _ _, b2⟩
    | true =>
      have e1 := hys h1 r0
      subst e1
      have n8 := cell_le8 h1
      rw [h1] at HV0
      rw [if_pos rfl]
      clear hno hou hys h1
      obtain ⟨k, rfl⟩ := Int.eq_ofNat_of_zero_le r0
      have hkn : k < n := by omega
      obtain ⟨d, rfl⟩ : ∃ d, n = k + d + 1 := ⟨n - k - 1, by omega⟩
      rw [show k + d + 1 - 1 = k + d by omega, Int.toNat_natCast]
      have r1 : ¬ (k : Int) < 0 := by omega
      obtain ⟨a, cap, rfl, -⟩ := HI.out
      go_enter Try.func17, Try.ntmps17
      go_wp2_with fail
      refine (HX0.out _ HI.out).mono ?_
      rintro e w1 ⟨rfl, b1⟩
      go_wp2_with fail
      refine (HV0.out _ (HI.out.below b1)).mono ?_
      rintro e w2 ⟨rfl, n2⟩
      have b2 := below_then b1 (Nat.le_refl _) n2
      clear b1 n2
      go_wp2_with fail
      refine (HP.out _ (HI.out.below b2)).mono ?_
      rintro e w3 ⟨v3, rfl, O3, n3⟩
      have b3 := below_then b2 (Nat.le_refl _) n3
      have O4 := O3.mono b2.size
      clear n3 b2 O3
      obtain ⟨a3, c3, rfl, hg3⟩ := O4.form
      obtain ⟨g, rfl, hgB, -⟩ := hg3 (by omega)
      have HD := Lib.hid (delete_at g c3 k d w.heap.size f w3 O4 (by omega))
      clear hg3
      go_wp2_with fail
      refine HD.out.mono ?_
      rintro e w4 ⟨rfl, O5, g5⟩
      have b5 : Below w.heap.size w w4 := b3.grown g5 b3.size (fun q hq => by cases hq; exact hgB)
      clear HD O4 b3 g5
      go_wp2
      go_ret2
      exact ⟨_, rfl, O5, b5⟩
  · have e1 := hou r0
    subst e1
    have r1 : R < 0 := by omega
    clear hno hou hys
    obtain ⟨a, cap, rfl, -⟩ := HI.out
    go_enter Try.func17, Try.ntmps17
    go_wp2_with fail
    refine (HX0.out _ HI.out).mono ?_
    rintro e w1 ⟨rfl, b1⟩
    go_wp2
    go_ret2
    exact ⟨_, rfl, TF.nil _ _ _, b1⟩
/-- The stations ahead of k and those behind it. -/
theorem parts_of {w : World} {b o cap k d : Nat} {f : Nat → Usr} (h : UsrsC w (.slice (some ⟨b, o, none⟩) (k + d + 1) cap) (k + d + 1) f) :
    UsrsC w (.slice (some ⟨b, o, none⟩) k cap) k f ∧ (∀ w1, (Instr.sliceAt 23 (.slice (some ⟨b, o, none⟩) (k + d + 1) cap) none (some (.int .i64 (k : Int))) none).run Try.prog w1 = .ok (.slice (some ⟨b, o, none⟩) k cap) w1) ∧
    ∃ A c, (∀ w1, (Instr.sliceAt 23 (.slice (some ⟨b, o, none⟩) (k + d + 1) cap) (some (.int .i64 ((k : Int) + 1))) none none).run Try.prog w1 = .ok (.slice (some A) d c) w1) ∧ UsrsC w (.slice (some A) d c) d (fun i => f (k + 1 + i)) := by
  have hH := headT h k (by omega)
  obtain ⟨a', cap', e, ⟨hcap, -⟩, hc⟩ := h
  injection e with e1 _ e3
  subst e1 e3
  refine ⟨⟨_, cap, rfl, ⟨by omega, fun x => by cases x⟩, fun i hi => hc i (by omega)⟩, hH, ?_⟩
  have c1 := fun w1 => cut1 w1 (some ⟨b, o, none⟩) (k + d + 1) cap (k + 1) (by omega) hcap
  simp only [show (((k + 1 : Nat)) : Int) = (k : Int) + 1 by omega] at c1
  by_cases e : cap = k + 1
  · refine ⟨⟨b, o, none⟩, cap - (k + 1), fun w1 => ?_, ⟨_, _, rfl, ⟨by omega, fun x => by cases x⟩, fun i hi => absurd hi (by omega)⟩⟩
    rw [c1]
    unfold sliced
    rw [if_pos e, show k + d + 1 - (k + 1) = d by omega]
  · refine ⟨⟨b, o + (k + 1) * 4, none⟩, cap - (k + 1), fun w1 => ?_, ⟨_, _, rfl, ⟨by omega, fun x => by cases x⟩, fun i hi => ?_⟩⟩
    · rw [c1]
      unfold sliced
      rw [if_neg e, show k + d + 1 - (k + 1) = d by omega]
      show Result.ok (Value.slice (some ((⟨b, o, none⟩ : Addr).add ((k + 1) * 4))) d (cap - (k + 1))) w1 = _
      congr 3
    · obtain ⟨b', o', e2, h1, h2⟩ := hc (k + 1 + i) (by omega)
      injection e2 with e2
      injection e2 with e4 e5
      subst e4 e5
      exact ⟨b, _, rfl, h1, by rw [show o + (k + 1) * 4 + i * 4 = o + (k + 1 + i) * 4 by omega]; exact h2⟩
set_option maxHeartbeats 3200000 in
theorem sRel_any (v : Value) (n : Nat) (f : Nat → Usr) (z : ByteArray) (w : World) (h : UsrsC w v n f) (hn : n ≤ 1048576) (hf : UsrSz n f) (_ : z.size ≤ 1048576) :
    Calls Try.prog 20 #[v, .string z] w fun e w' => ∃ u, e = .returned (.tuple #[u, .bool (rlB n f z)]) ∧ TF w' w.heap.size u (rlN n f z) (rlF n f z) ∧ Below w.heap.size w w' := by
  unfold rlN
  have HV0 := Lib.hid (fun w h => sCell_any v n f w h hn hf)
  have HX0 := Lib.hid (fun w h => l8Index_any v n f z w h hn)
  have HI := Lib.hid h
  have hbd := ixN_bd n f z
  have hno := fun h => rl_no (n := n) (f := f) (z := z) h
  have hou := fun h => rl_out (n := n) (f := f) (z := z) h
  have hys := fun h h0 => rl_yes (n := n) (f := f) (z := z) h h0
  unfold rlF
  obtain ⟨R, hR⟩ : ∃ R, ixN n f z = R := ⟨_, rfl⟩
  rw [hR] at HX0 hbd hou hys ⊢
  clear hR
  obtain ⟨T, hT⟩ : ∃ T, rlB n f z = T := ⟨_, rfl⟩
  rw [hT] at hno hou hys ⊢
  clear hT h
  cases h1 : cellB n f with
  | false =>
    have e1 := hno h1
    subst e1
    rw [h1] at HV0
    rw [if_neg (by simp)]
    clear hno hou hys h1
    obtain ⟨a, cap, rfl, -⟩ := HI.out
    go_enter Try.func20, Try.ntmps20
    go_wp2_with fail
    refine (HX0.out _ HI.out).mono ?_
    rintro e w' ⟨rfl, rfl⟩
    go_wp2_with fail
    refine (HV0.out _ HI.out).mono ?_
    rintro e w1 ⟨rfl, b1⟩
    have OE := Lib.hid ((TF.empty0 w1 (cutU f R.toNat)).mono b1.size)
    have be := b1.alloc b1.size (.cells #[] 30)
    clear b1
    go_wp2
    go_ret2
    exact ⟨_, rfl, OE.out, be⟩
  | true =>
    have n8 := cell_le8 h1
    rw [h1] at HV0
    by_cases r0 : 0 ≤ R
    · have e1 := hys h1 r0
      subst e1
      rw [if_pos rfl]
      clear hno hou hys h1
      obtain ⟨k, rfl⟩ := Int.eq_ofNat_of_zero_le r0
      obtain ⟨d, rfl⟩ : ∃ d, n = k + d + 1 := ⟨n - k - 1, by omega⟩
      rw [show k + d + 1 - 1 = k + d by omega, Int.toNat_natCast]
      have r1 : ¬ (k : Int) < 0 := by omega
      obtain ⟨a, cap, rfl, -, hcc⟩ := id HI.out
      obtain ⟨b, o, rfl, -, -⟩ := hcc 0 (by omega)
      clear hcc
      obtain ⟨U0, hh0, A, CA, hh1, U1⟩ := parts_of HI.out
      have HU0 := Lib.hid U0
      have HU1 := Lib.hid U1
      have hks : IntKind.i64.wrap ((k : Int) + 1) = (k : Int) + 1 := IntWalk.i64_in _ (by omega)
      clear U0 U1
      go_enter Try.func20, Try.ntmps20
      go_wp2_with fail
      refine (HX0.out _ HI.out).mono ?_
      rintro e w' ⟨rfl, rfl⟩
      go_wp2_with fail
      refine (HV0.out _ HI.out).mono ?_
      rintro e w1 ⟨rfl, b1⟩
      have HB1 := Lib.hid b1
      have bE := b1.drew.alloc b1.size (.cells #[] 30)
      have HBE := Lib.hid bE
      have OE := Lib.hid (TF.empty0 w1.drew f)
      clear b1 bE
      go_wp2_with fail
      go_region_law (first
        | (refine step_append_stations rfl (.tmp 18) (.tmp 21) rfl w1.heap.size (.slice (some ⟨w1.heap.size, 0, none⟩) 0 0) 0 f (by simp [Act.eval]) OE.out ⟨b, o, none⟩ k cap f (by simp [Act.eval]) (HU0.out.below HBE.out) (by omega) (by simp) ?_; intro v2 w2 O2 g2; have b2 : Below w.heap.size w w2 := HBE.out.grown g2 HBE.out.size (fun q hq => by cases hq; exact HB1.out.size))
        | (refine step_append_stations rfl (.tmp 22) (.tmp 26) rfl w1.heap.size v2 (0 + k) _ (by simp [Act.eval]) O2 A d CA (fun i => f (k + 1 + i)) (by simp [Act.eval]) (HU1.out.below b2) (by omega) (Nat.le_trans (by simp) g2.size) ?_; intro v3 w3 O3 g3; have hlo := fun q hq => (O2.lt q hq).1))
      all_goals
        have b3 : Below w.heap.size w w3 := b2.grown g3 b2.size (fun q hq => Nat.le_trans HB1.out.size (hlo q hq))
        have O4 : TF w3 w.heap.size v3 (k + d) (cutU f k) := by
          have := (O3.mono HB1.out.size).congr (g := cutU f k) (fun i hi => by
            unfold cutU
            by_cases e : i < k
            · rw [if_pos (by omega), if_neg (Nat.not_lt_zero i), Nat.sub_zero, if_pos e]
            · rw [if_neg (by omega), if_neg e, show k + 1 + (i - (0 + k)) = i + 1 by omega])
          rwa [Nat.zero_add] at this
        clear O2 O3 g2 g3 hlo b2 HU0 HU1 hh0 hh1 hks OE HBE
        go_wp2
        go_ret2
        exact ⟨_, rfl, O4, b3⟩
    · have e1 := hou r0
      subst e1
      rw [if_neg (by simp)]
      have r1 : R < 0 := by omega
      clear hno hou hys h1
      obtain ⟨a, cap, rfl, -⟩ := HI.out
      go_enter Try.func20, Try.ntmps20
      go_wp2_with fail
      refine (HX0.out _ HI.out).mono ?_
      rintro e w' ⟨rfl, rfl⟩
      go_wp2_with fail
      refine (HV0.out _ HI.out).mono ?_
      rintro e w1 ⟨rfl, b1⟩
      have OE := Lib.hid ((TF.empty0 w1 (cutU f R.toNat)).mono b1.size)
      have be := b1.alloc b1.size (.cells #[] 30)
      clear b1
      go_wp2
      go_ret2
      exact ⟨_, rfl, OE.out, be⟩
end Go.Proofs.Ytjnipbopimpggab
