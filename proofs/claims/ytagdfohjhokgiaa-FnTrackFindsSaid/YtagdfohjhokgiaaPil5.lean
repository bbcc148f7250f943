/- Chapter 5's model: ScoreAt, ScoreTable, EarlyLate, TrackStep, LockedAt, VerifyOffset, PilotSignal. -/
import Derived.Test.YtagdfohjhokgiaaPilMath
import Derived.Test.YtagdfohjhokgiaaPil4
namespace Go.Proofs.Ytagdfohjhokgiaa
open Go.RowKit
set_option linter.unusedVariables false
set_option maxRecDepth 100000
theorem cutF_zero (f : Nat → Int) : cutF 0 f = f := by funext i; unfold cutF; rw [Nat.zero_add]
theorem quiet_drewP {P : Program} {f : FuncId} {args : Array Value} {w : World} {n : Nat} {v : Value}
    (h : Calls P f args (w.drewN n) fun e w' => e = .returned v ∧ ∃ m, (w.drewN n).drewN m = w') : Calls P f args (w.drewN n) fun e w'' => e = .returned v ∧ ∃ m, w'' = w.drewN m :=
  h.mono fun _ _ ⟨he, m, hm⟩ => ⟨he, n + m, by rw [← hm, World.drewN_drewN]⟩
/-- A signal and a pilot that are valid. -/
def rdB (n : Nat) (f : Nat → Int) (c : ByteArray) (g : Int) : Bool := sigB n f && pilB c g
theorem rdB_iff (n : Nat) (f : Nat → Int) (c : ByteArray) (g : Int) : rdB n f c g = true ↔ sigB n f = true ∧ pilB c g = true := by unfold rdB; rw [Bool.and_eq_true]
/-- .. with an offset. -/
def roB (n : Nat) (f : Nat → Int) (c : ByteArray) (g k : Int) : Bool := sigB n f && offB c g k
theorem roB_iff (n : Nat) (f : Nat → Int) (c : ByteArray) (g k : Int) : roB n f c g k = true ↔ sigB n f = true ∧ offB c g k = true := by unfold roB; rw [Bool.and_eq_true]
theorem ro_rd {n : Nat} {f : Nat → Int} {c : ByteArray} {g k : Int} (h : roB n f c g k = true) : rdB n f c g = true := by
  obtain ⟨h1, h2⟩ := (roB_iff _ _ _ _ _).1 h
  exact (rdB_iff _ _ _ _).2 ⟨h1, ((offB_iff _ _ _).1 h2).1⟩
theorem ro_in {n : Nat} {f : Nat → Int} {c : ByteArray} {g k : Int} (h : rdB n f c g = true) : offB c g k = roB n f c g k := by
  unfold roB; rw [((rdB_iff _ _ _ _).1 h).1]; rfl
theorem ro_out {n : Nat} {f : Nat → Int} {c : ByteArray} {g k : Int} (h : rdB n f c g = false) : roB n f c g k = false := by
  cases e : roB n f c g k with
  | false => rfl
  | true => rw [ro_rd e] at h; exact h
theorem sc_no {n : Nat} {f : Nat → Int} {c : ByteArray} {g k : Int} (h : roB n f c g k = false) : scAns n f c g k = (0, false) := by unfold scAns; unfold roB at h; rw [h]; rfl
theorem sc_yes {n : Nat} {f : Nat → Int} {c : ByteArray} {g k : Int} (h : roB n f c g k = true) : scAns n f c g k = (scr n f c g.toNat (perL c g) k, true) := by unfold scAns; unfold roB at h; rw [h]; rfl
theorem el_no {n : Nat} {f : Nat → Int} {c : ByteArray} {g k : Int} (h : roB n f c g k = false) : elAns n f c g k = (0, false) := by unfold elAns; unfold roB at h; rw [h]; rfl
theorem el_yes {n : Nat} {f : Nat → Int} {c : ByteArray} {g k : Int} (h : roB n f c g k = true) : elAns n f c g k = (elD n f c g.toNat (perL c g) k, true) := by unfold elAns; unfold roB at h; rw [h]; rfl
theorem ts_no {n : Nat} {f : Nat → Int} {c : ByteArray} {g k : Int} (h : roB n f c g k = false) : tsAns n f c g k = -1 := by unfold tsAns; unfold roB at h; rw [h]; rfl
theorem ts_yes {n : Nat} {f : Nat → Int} {c : ByteArray} {g k : Int} (h : roB n f c g k = true) : tsAns n f c g k = (stN n f c g.toNat (perL c g) k.toNat : Int) := by unfold tsAns; unfold roB at h; rw [h]; rfl
theorem la_no {n : Nat} {f : Nat → Int} {c : ByteArray} {g k t : Int} (h : roB n f c g k = false) : laAns n f c g k t = false := by
  unfold laAns; unfold roB at h
  cases e : sigB n f with
  | false => rfl
  | true => rw [e, Bool.true_and] at h; rw [h]; rfl
theorem la_yes {n : Nat} {f : Nat → Int} {c : ByteArray} {g k t : Int} (h : roB n f c g k = true) : laAns n f c g k t = (decide (stN n f c g.toNat (perL c g) k.toNat = k.toNat) && decide (t ≤ scr n f c g.toNat (perL c g) k)) := by
  obtain ⟨h1, h2⟩ := (roB_iff _ _ _ _ _).1 h
  unfold laAns; rw [h1, h2]; rfl
theorem elD_bd {n : Nat} {f : Nat → Int} {c : ByteArray} {G P : Nat} (h : okB c c.size = true) (hP : c.size * G = P) (h1 : 1 ≤ P) (hA : allM n f = true) (h3 : n ≤ 3000) (k : Int) : -6000000000 ≤ elD n f c G P k ∧ elD n f c G P k ≤ 6000000000 := by
  have a := scr_bd (c := c) (G := G) (P := P) h hP h1 hA h3 (k + (hfN G : Int))
  have b := scr_bd (c := c) (G := G) (P := P) h hP h1 hA h3 (k - (hfN G : Int))
  unfold elD; omega
theorem l5Score_zero (v : Value) (n : Nat) (f : Nat → Int) (c : ByteArray) (g k : Int) (w : World) (h : IntsR w v n f) (hA : allM n f = true) (hn : n ≤ 3000) (hp : pilB c g = true) (h0 : -5000 ≤ k) (h1 : k ≤ 5000) :
    Calls Try.prog 35 #[v, .int .i64 0, .agg #[.string c, .int .i64 g], .int .i64 k] w fun e w' => e = .returned (.int .i64 (scr n f c g.toNat (perL c g) k)) ∧ Below w.heap.size w w' := by
  have := l5Score_yes v n f 0 c g k w h hA hn (by omega) hp h0 h1
  rw [Nat.sub_zero, cutF_zero] at this
  exact this
theorem ready_any (v : Value) (n : Nat) (f : Nat → Int) (c : ByteArray) (g : Int) (w : World) (h : IntsR w v n f) (hn : n ≤ 1048576) (hc : c.size ≤ 1048576) :
    Calls Try.prog 33 #[v, .agg #[.string c, .int .i64 g]] w fun e w' => e = .returned (.bool (rdB n f c g)) ∧ Below w.heap.size w w' := by
  have HI := Lib.hid h
  have HB := Lib.hid (fun w h => sSig_any v n f w h hn)
  obtain ⟨a, cap, rfl, -⟩ := h
  have b0 := (Below.refl w.heap.size w).alloc (Nat.le_refl _) (.cells #[.string c, .int .i64 g] 24)
  have u0 := PilAt.new w 24 c g
  cases hs : sigB n f with
  | false =>
    rw [hs] at HB
    have HR := Lib.hid (show false = rdB n f c g by unfold rdB; rw [hs]; rfl)
    clear hs u0
    go_enter Try.func33, Try.ntmps33
    go_wp2_with fail
    refine (HB.out _ (HI.out.below b0)).mono ?_
    rintro e w' ⟨rfl, rfl⟩
    go_wp2
    go_ret
    exact ⟨ret_bool HR.out, b0⟩
  | true =>
    rw [hs] at HB
    have hv := fun w => sPilot_any c g w hc
    rw [show pilB c g = rdB n f c g by unfold rdB; rw [hs]; rfl] at hv
    obtain ⟨R, hR⟩ : ∃ R, rdB n f c g = R := ⟨_, rfl⟩
    rw [hR] at hv ⊢
    have HV := Lib.hid hv
    clear hs hv hR
    go_enter Try.func33, Try.ntmps33
    go_wp2_with fail
    refine (HB.out _ (HI.out.below b0)).mono ?_
    rintro e w' ⟨rfl, rfl⟩
    obtain ⟨x0, x1, x2⟩ := id u0
    go_wp2_with fail
    clear x0 x1 x2
    refine (HV.out _).mono ?_
    rintro e w51 ⟨rfl, n51⟩
    have b51 := below_then b0 (Nat.le_refl _) n51
    have u51 := u0.below n51 (by simp)
    clear n51 b0 u0
    obtain ⟨x0, x1, x2⟩ := id u51
    go_wp2
    go_ret
    exact ⟨rfl, b51⟩
theorem half_any (c : ByteArray) (G : Nat) (w : World) (h : G ≤ 8) :
    Calls Try.prog 61 #[.agg #[.string c, .int .i64 (G : Int)]] w fun e w' => e = .returned (.int .i64 (hfN G : Int)) ∧ Below w.heap.size w w' := by
  have HH := Lib.hid (show (hfN G : Int) = max 1 ((G : Int) / 2) by unfold hfN; omega)
  go_enter Try.func61, Try.ntmps61
  go_wp2
  all_goals
    go_ret
    exact ⟨ret_int (by have := HH.out; omega), by go_grown⟩
set_option maxHeartbeats 3200000 in
theorem l5Early_yes (v : Value) (n : Nat) (f : Nat → Int) (c : ByteArray) (g : Int) (K : Nat) (w : World) (h : IntsR w v n f) (hr : roB n f c g K = true) :
    Calls Try.prog 51 #[v, .agg #[.string c, .int .i64 g], .int .i64 (K : Int)] w fun e w' => e = .returned (.int .i64 (elD n f c g.toNat (perL c g) K)) ∧ Below w.heap.size w w' := by
  obtain ⟨hs, ho⟩ := (roB_iff _ _ _ _ _).1 hr
  obtain ⟨hA, h3⟩ := (sigB_iff n f).1 hs
  obtain ⟨hp, k0, k1⟩ := (offB_iff _ _ _).1 ho
  obtain ⟨G, rfl, q1, q2, q3, q4, q5, q6, q7, q8, q9⟩ := pil_nat hp
  have hL := fun w => l5Length_yes c G w hp
  have hS := fun k w h h0 h1 => l5Score_zero v n f c G k w h hA h3 hp h0 h1
  rw [Int.toNat_natCast] at hS ⊢
  obtain ⟨P, hP⟩ : ∃ P, perL c G = P := ⟨_, rfl⟩
  rw [hP] at hL hS q7 q8 q9 k1 ⊢
  have hH := fun w => half_any c G w q2
  have hhf : hfN G ≤ 8 := by unfold hfN; omega
  have hM := fun x w => l2Mod_big x P w (by omega) (by omega)
  have hE : elD n f c G P K = scr n f c G P (modN ((K : Int) + (hfN G : Int)) P : Int) - scr n f c G P (modN ((K : Int) - (hfN G : Int)) P : Int) := by
    rw [scr_mod _ _ _ _ _ _ q8, scr_mod _ _ _ _ _ _ q8]; rfl
  have s1 := scr_bd (n := n) (f := f) q4 q7 q8 hA h3 (modN ((K : Int) + (hfN G : Int)) P : Int)
  have s2 := scr_bd (n := n) (f := f) q4 q7 q8 hA h3 (modN ((K : Int) - (hfN G : Int)) P : Int)
  have m1 := modN_lt ((K : Int) + (hfN G : Int)) P (by omega)
  have m2 := modN_lt ((K : Int) - (hfN G : Int)) P (by omega)
  obtain ⟨F, hF⟩ : ∃ F, hfN G = F := ⟨_, rfl⟩
  rw [hF] at hH hhf hE s1 s2 m1 m2
  have hM1 := fun w => hM ((K : Int) + (F : Int)) w
  have hM2 := fun w => hM ((K : Int) - (F : Int)) w
  obtain ⟨M1, hM1e⟩ : ∃ M, modN ((K : Int) + (F : Int)) P = M := ⟨_, rfl⟩
  obtain ⟨M2, hM2e⟩ : ∃ M, modN ((K : Int) - (F : Int)) P = M := ⟨_, rfl⟩
  rw [hM1e] at hM1 hE s1 m1
  rw [hM2e] at hM2 hE s2 m2
  have hS1 := fun w h => hS (M1 : Int) w h (by omega) (by omega)
  have hS2 := fun w h => hS (M2 : Int) w h (by omega) (by omega)
  obtain ⟨S1, hS1e⟩ : ∃ S, scr n f c G P (M1 : Int) = S := ⟨_, rfl⟩
  obtain ⟨S2, hS2e⟩ : ∃ S, scr n f c G P (M2 : Int) = S := ⟨_, rfl⟩
  rw [hS1e] at hS1 hE s1
  rw [hS2e] at hS2 hE s2
  have HE := Lib.hid hE
  have HL := Lib.hid hL
  have HH := Lib.hid hH
  have HM1 := Lib.hid hM1
  have HM2 := Lib.hid hM2
  have HS1 := Lib.hid hS1
  have HS2 := Lib.hid hS2
  have HI := Lib.hid h
  have v1 : IntKind.i64.wrap ((K : Int) + (F : Int)) = (K : Int) + (F : Int) := IntWalk.i64_in _ (by omega)
  have v2 : IntKind.i64.wrap ((K : Int) - (F : Int)) = (K : Int) - (F : Int) := IntWalk.i64_in _ (by omega)
  have v3 : IntKind.i64.wrap (S1 - S2) = S1 - S2 := IntWalk.i64_in _ (by omega)
  obtain ⟨a, cap, rfl, -⟩ := h
  have b0 := (Below.refl w.heap.size w).alloc (Nat.le_refl _) (.cells #[.string c, .int .i64 (G : Int)] 24)
  have u0 := PilAt.new w 24 c G
  clear hL hH hM hM1 hM2 hS hS1 hS2 hM1e hM2e hS1e hS2e hE hF hP hs ho hA hp hr h3 s1 s2 m1 m2 q3 q4 q7 k0 k1
  go_enter Try.func51, Try.ntmps51
  go_wp2_with fail
  obtain ⟨W, hW⟩ : ∃ W, w.alloc (.cells #[.string c, .int .i64 (G : Int)] 24) = W := ⟨_, rfl⟩
  rw [hW] at b0 u0 ⊢
  clear hW
  have BB := Lib.hid b0
  obtain ⟨bx, hB⟩ : ∃ B, w.heap.size = B := ⟨_, rfl⟩
  rw [hB] at u0 ⊢
  clear hB b0
  obtain ⟨x0, x1, x2⟩ := id u0
  have r0 := Below.refl W.heap.size W
  go_region_held3 (fun wx => Below W.heap.size W wx ∧ wx.cell? ⟨bx, 0, none⟩ = some (.string c) ∧ wx.cell? ⟨bx, 1, none⟩ = some (.int .i64 (G : Int))) (first | exact ⟨k2, y2.1, y2.2.1⟩ | exact ⟨k1, y1.1, y1.2.1⟩ | exact ⟨r0.drew, x0, x1⟩) (first
    | (go_at_call 61; ((with_reducible refine (HH.out _).mono ?_); rintro e w91 ⟨rfl, hB⟩; have k1 := below_then r0.drew (Nat.le_refl _) hB; have y1 := u0.below k1 x2; clear hB))
    | (go_at_call 24; ((with_reducible refine (HL.out _).mono ?_); rintro e w92 ⟨rfl, hB⟩; have k2 := below_then k1 (Nat.le_refl _) hB; have y2 := u0.below k2 x2; clear hB))
    | (go_at_call 52; ((with_reducible refine (HM1.out _).mono ?_); rintro e w' ⟨rfl, rfl⟩)))
  have c1 := below_then BB.out (Nat.le_refl _) k2
  have U1 := y2
  clear BB u0 x0 x1 x2 r0 k1 k2 y1 y2 v1
  go_wp2_with fail
  obtain ⟨W1, hW⟩ : ∃ W, w92 = W := ⟨_, rfl⟩
  rw [hW] at c1 U1 ⊢
  clear hW
  obtain ⟨x0, x1, x2⟩ := id U1
  have r0 := Below.refl W1.heap.size W1
  go_region_held3 (fun wx => Below W1.heap.size W1 wx ∧ wx.cell? ⟨bx, 0, none⟩ = some (.string c) ∧ wx.cell? ⟨bx, 1, none⟩ = some (.int .i64 (G : Int))) (first | exact ⟨k2, y2.1, y2.2.1⟩ | exact ⟨k1, y1.1, y1.2.1⟩ | exact ⟨r0.drew, x0, x1⟩) (first
    | (go_at_call 61; ((with_reducible refine (HH.out _).mono ?_); rintro e w91 ⟨rfl, hB⟩; have k1 := below_then r0.drew (Nat.le_refl _) hB; have y1 := U1.below k1 x2; clear hB))
    | (go_at_call 24; ((with_reducible refine (HL.out _).mono ?_); rintro e w92 ⟨rfl, hB⟩; have k2 := below_then k1 (Nat.le_refl _) hB; have y2 := U1.below k2 x2; clear hB))
    | (go_at_call 52; ((with_reducible refine (HM2.out _).mono ?_); rintro e w' ⟨rfl, rfl⟩)))
  have c2 := below_then c1 (Nat.le_refl _) k2
  have U2 := y2
  clear c1 U1 x0 x1 x2 r0 k1 k2 y1 y2 v2
  go_wp2_with fail
  obtain ⟨W2, hW⟩ : ∃ W, w92 = W := ⟨_, rfl⟩
  rw [hW] at c2 U2 ⊢
  clear hW
  obtain ⟨x0, x1, x2⟩ := id U2
  have r0 := Below.refl W2.heap.size W2
  go_region_held3 (fun wx => Below W2.heap.size W2 wx ∧ wx.cell? ⟨bx, 0, none⟩ = some (.string c) ∧ wx.cell? ⟨bx, 1, none⟩ = some (.int .i64 (G : Int))) (first | exact ⟨k2, y2.1, y2.2.1⟩ | exact ⟨k1, y1.1, y1.2.1⟩ | exact ⟨r0.drew, x0, x1⟩) (first
    | (go_at_call 35; ((with_reducible refine (HS1.out _ (HI.out.below (below_then c2 (Nat.le_refl _) r0.drew))).mono ?_); rintro e w91 ⟨rfl, hB⟩; have k1 := below_then r0.drew (Nat.le_refl _) hB; have y1 := U2.below k1 x2; clear hB))
    | (go_at_call 35; ((with_reducible refine (HS2.out _ (HI.out.below (below_then c2 (Nat.le_refl _) k1))).mono ?_); rintro e w92 ⟨rfl, hB⟩; have k2 := below_then k1 (Nat.le_refl _) hB; have y2 := U2.below k2 x2; clear hB)))
  have c3 := below_then c2 (Nat.le_refl _) k2
  clear c2 U2 x0 x1 x2 r0 k1 k2 y1 y2 v3
  go_wp2
  go_ret
  exact ⟨ret_int HE.out.symm, c3⟩
end Go.Proofs.Ytagdfohjhokgiaa
