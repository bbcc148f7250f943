/- The program's ScoreAt; its loop behind an interface: discriminate, step; EarlyLate, TrackStep, LockedAt. -/
import Derived.Test.YtagdfohjhokgiaaPil6
namespace Go.Proofs.Ytagdfohjhokgiaa
open Go.RowKit
set_option linter.unusedVariables false
set_option maxRecDepth 100000
theorem ro_no {n : Nat} {f : Nat → Int} {c : ByteArray} {g k : Int} (h : roB n f c g k = false) : ¬ (sigB n f = true ∧ offB c g k = true) := fun e => by rw [(roB_iff _ _ _ _ _).2 e] at h; cases h
set_option maxHeartbeats 800000 in
theorem iScoreAt_any (v : Value) (n : Nat) (f : Nat → Int) (c : ByteArray) (g k : Int) (w : World) (h : IntsC w v n f) (hn : n ≤ 1048576) (hc : c.size ≤ 1048576) :
    Calls Try.prog 27 #[v, .agg #[.string c, .int .i64 g], .int .i64 k] w fun e w' => e = .returned (.tuple #[.int .i64 (scAns n f c g k).1, .bool (scAns n f c g k).2]) ∧ Below w.heap.size w w' := by
  have HI := Lib.hid h
  cases hr : roB n f c g k with
  | false =>
    have HA := Lib.hid (fun w h => iAt_no v n f c g k w h hn hc (ro_no hr))
    rw [sc_no hr]
    clear hr
    obtain ⟨a, cap, rfl, -⟩ := h
    have b0 := (Below.refl w.heap.size w).alloc (Nat.le_refl _) (.cells #[.string c, .int .i64 g] 24)
    have u0 := PilAt.new w 24 c g
    go_enter Try.func27, Try.ntmps27
    go_wp2_with fail
    refine (HA.out _ (HI.out.below b0)).mono ?_
    rintro e w1 ⟨rfl, n1⟩
    have b1 := below_then b0 (Nat.le_refl _) n1
    clear n1 b0 u0
    go_wp2
    go_ret2
    exact ⟨rfl, b1⟩
  | true =>
    obtain ⟨hs, ho⟩ := (roB_iff _ _ _ _ _).1 hr
    obtain ⟨hp, k0, k1⟩ := (offB_iff _ _ _).1 ho
    have p9 : perL c g ≤ 2040 := by obtain ⟨_, -, -, -, -, -, -, -, -, -, q9⟩ := pil_nat hp; exact q9
    have HA := Lib.hid (fun w h => iAt_yes v n f c g k w h hs ho)
    have HS := Lib.hid (fun b vt w h => iScore_any b v n f vt c g.toNat (perL c g) k w h (by omega) (by omega))
    rw [sc_yes hr]
    clear hr hs ho hp k0 k1 p9
    obtain ⟨a, cap, rfl, -⟩ := h
    have b0 := (Below.refl w.heap.size w).alloc (Nat.le_refl _) (.cells #[.string c, .int .i64 g] 24)
    have u0 := PilAt.new w 24 c g
    go_enter Try.func27, Try.ntmps27
    go_wp2_with fail
    refine (HA.out _ (HI.out.below b0)).mono ?_
    rintro e w1 ⟨bs, vt, rfl, HR, hb, n1⟩
    have b1 := below_then b0 (Nat.le_refl _) n1
    clear n1 b0 u0
    go_wp2_with fail
    refine (HS.out _ _ _ HR).mono ?_
    rintro e w' ⟨rfl, m, rfl⟩
    have bz := below_drewN b1 m
    clear HR hb b1
    go_wp2
    go_ret2
    exact ⟨rfl, bz⟩
/-- A box with a loop: its search, its reach, its phase. -/
def LoopOK (w : World) (bl bs : Nat) (v : Value) (n : Nat) (f : Nat → Int) (vt : Value) (c : ByteArray) (G P K : Nat) : Prop :=
  w.cell? ⟨bl, 0, none⟩ = some (.pointer (some ⟨bs, 0, none⟩)) ∧ w.cell? ⟨bl, 1, none⟩ = some (.int .i64 (hfN G : Int)) ∧ w.cell? ⟨bl, 2, none⟩ = some (.int .i64 (K : Int)) ∧ w.frozen? ⟨bl, 2, none⟩ = false ∧ bl < w.heap.size ∧ bs < bl ∧ SrchOK w bs v n f vt c G P
theorem LoopOK.below {w w' : World} {bl bs n : Nat} {v vt : Value} {f : Nat → Int} {c : ByteArray} {G P K : Nat} (h : LoopOK w bl bs v n f vt c G P K) (hb : Below w.heap.size w w') : LoopOK w' bl bs v n f vt c G P K := by
  obtain ⟨h1, h2, h3, h4, h5, h6, h7⟩ := h
  exact ⟨(hb.cell (p := ⟨bl, 0, none⟩) h5).trans h1, (hb.cell (p := ⟨bl, 1, none⟩) h5).trans h2, (hb.cell (p := ⟨bl, 2, none⟩) h5).trans h3, (hb.frozen (p := ⟨bl, 2, none⟩) h5).trans h4, Nat.lt_of_lt_of_le h5 hb.size, h6, h7.below hb⟩
theorem LoopOK.drewN {w : World} {bl bs n : Nat} {v vt : Value} {f : Nat → Int} {c : ByteArray} {G P K : Nat} (h : LoopOK w bl bs v n f vt c G P K) (m : Nat) : LoopOK (w.drewN m) bl bs v n f vt c G P K := h.below (below_drewN (Below.refl _ _) m)
theorem SrchOK.setCell {w : World} {b bl : Nat} {v : Value} {n : Nat} {f : Nat → Int} {vt : Value} {c : ByteArray} {G P : Nat} (h : SrchOK w b v n f vt c G P) (hb : b < bl) (o : Nat) (u : Value) : SrchOK (w.setCell ⟨bl, o, none⟩ u) b v n f vt c G P := by
  obtain ⟨h1, ⟨w0, h2, h3, h4, h5⟩, h6⟩ := h
  have hh : Below bl w (w.setCell ⟨bl, o, none⟩ u) := bytes_below (Below.refl _ _) (Nat.le_refl _) _ _
  exact ⟨h1.below hh hb, ⟨w0, h2, h3, h4, bytes_below h5 (by omega) _ _⟩, h6⟩
theorem LoopOK.move {w : World} {bl bs n : Nat} {v vt : Value} {f : Nat → Int} {c : ByteArray} {G P K : Nat} (h : LoopOK w bl bs v n f vt c G P K) (J : Nat) : LoopOK (w.setCell ⟨bl, 2, none⟩ (.int .i64 (J : Int))) bl bs v n f vt c G P J := by
  obtain ⟨h1, h2, h3, h4, h5, h6, h7⟩ := h
  refine ⟨?_, ?_, ?_, ?_, by simp; exact h5, h6, h7.setCell h6 _ _⟩
  · rw [World.cell?_setCell_other _ _ _ _ (by simp)]; exact h1
  · rw [World.cell?_setCell_other _ _ _ _ (by simp)]; exact h2
  · exact World.cell?_setCell_same _ _ _ h3
  · rw [World.frozen?_setCell]; exact h4
/-- A loop was made. -/
def LoopPost (w : World) (v : Value) (n : Nat) (f : Nat → Int) (c : ByteArray) (G P K : Nat) (e : Ending) (w' : World) : Prop :=
  ∃ bl bs vt, e = .returned (.tuple #[.iface 74 (.pointer (some ⟨bl, 0, none⟩)), .bool true]) ∧ LoopOK w' bl bs v n f vt c G P K ∧ w.heap.size ≤ bl ∧ Below w.heap.size w w'
set_option maxHeartbeats 1600000 in
theorem iLoop_yes (v : Value) (n : Nat) (f : Nat → Int) (c : ByteArray) (g : Int) (K : Nat) (w : World) (h : IntsC w v n f) (hr : roB n f c g K = true) :
    Calls Try.prog 36 #[v, .agg #[.string c, .int .i64 g], .int .i64 (K : Int)] w (LoopPost w v n f c g.toNat (perL c g) K) := by
  have HI := Lib.hid h
  obtain ⟨hs, ho⟩ := (roB_iff _ _ _ _ _).1 hr
  obtain ⟨hp, k0, k1⟩ := (offB_iff _ _ _).1 ho
  obtain ⟨G, rfl, q1, q2, q3, q4, q5, q6, q7, q8, q9⟩ := pil_nat hp
  have HA := Lib.hid (fun w h => iAt_yes v n f c (G : Int) (K : Int) w h hs ho)
  rw [Int.toNat_natCast] at HA ⊢
  obtain ⟨P, hP⟩ : ∃ P, perL c G = P := ⟨_, rfl⟩
  rw [hP] at HA q9 k1 ⊢
  have HH := Lib.hid (show (hfN G : Int) = max 1 ((G : Int) / 2) by unfold hfN; omega)
  clear hr hs ho hp q3 q4 q7 q8 hP
  obtain ⟨a, cap, rfl, -⟩ := h
  have b0 := (Below.refl w.heap.size w).alloc (Nat.le_refl _) (.cells #[.string c, .int .i64 (G : Int)] 24)
  have u0 := PilAt.new w 24 c (G : Int)
  go_enter Try.func36, Try.ntmps36
  go_wp2_with fail
  refine (HA.out _ (HI.out.below b0)).mono ?_
  rintro e w1 ⟨bs, vt, rfl, HR, hb, n1⟩
  have b1 := below_then b0 (Nat.le_refl _) n1
  have u1 := u0.below n1 (by simp)
  clear n1 b0 u0
  have HRR := Lib.hid HR
  have HBB := Lib.hid b1
  have hbs := HR.1.2.2.2.2
  clear HR hb b1
  obtain ⟨x0, x1, x2⟩ := id u1
  go_wp2
  all_goals
    have HL : ∀ H : Int, H = (hfN G : Int) → LoopOK (w1.alloc (.cells #[.pointer (some ⟨bs, 0, none⟩), .int .i64 H, .int .i64 (K : Int)] 76)) w1.heap.size bs (.slice a n cap) n f vt c G P K := fun H hH => by
      subst hH
      exact ⟨by simp, by simp, by simp, frozen_box _ _ _ _, by simp, hbs, HRR.out.below ((Below.refl _ _).alloc (Nat.le_refl _) _)⟩
    go_ret2
    exact ⟨_, _, _, rfl, HL _ (by have := HH.out; omega), HBB.out.size, HBB.out.alloc HBB.out.size _⟩
theorem iLoop_no (v : Value) (n : Nat) (f : Nat → Int) (c : ByteArray) (g k : Int) (w : World) (h : IntsC w v n f) (hn : n ≤ 1048576) (hc : c.size ≤ 1048576) (hr : roB n f c g k = false) :
    Calls Try.prog 36 #[v, .agg #[.string c, .int .i64 g], .int .i64 k] w fun e w' => e = .returned (.tuple #[.nilIface, .bool false]) ∧ Below w.heap.size w w' := by
  have HI := Lib.hid h
  have HA := Lib.hid (fun w h => iAt_no v n f c g k w h hn hc (ro_no hr))
  clear hr
  obtain ⟨a, cap, rfl, -⟩ := h
  have b0 := (Below.refl w.heap.size w).alloc (Nat.le_refl _) (.cells #[.string c, .int .i64 g] 24)
  have u0 := PilAt.new w 24 c g
  go_enter Try.func36, Try.ntmps36
  go_wp2_with fail
  refine (HA.out _ (HI.out.below b0)).mono ?_
  rintro e w1 ⟨rfl, n1⟩
  have b1 := below_then b0 (Nat.le_refl _) n1
  clear n1 b0 u0
  go_wp2
  go_ret2
  exact ⟨rfl, b1⟩
end Go.Proofs.Ytagdfohjhokgiaa
