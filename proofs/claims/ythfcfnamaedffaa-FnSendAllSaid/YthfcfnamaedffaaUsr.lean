/- Users: by value. -/
import Derived.Test.YthfcfnamaedffaaSig6
namespace Go.Proofs.Ythfcfnamaedffaa
open Go.RowKit
set_option linter.unusedVariables false
set_option maxRecDepth 100000
/-- A user, or what has its form. -/
structure Usr where
  code : ByteArray
  data : ByteArray
  gain : Int
  delay : Int
def Usr.val (u : Usr) : Value := .agg #[.string u.code, .string u.data, .int .i64 u.gain, .int .i64 u.delay]
def usrG (g d : Int) : Bool := decide (0 ≤ g) && (decide (g ≤ 1000) && (decide (0 ≤ d) && decide (d ≤ 1000)))
theorem usrG_iff (g d : Int) : usrG g d = true ↔ 0 ≤ g ∧ g ≤ 1000 ∧ 0 ≤ d ∧ d ≤ 1000 := by unfold usrG; simp only [Bool.and_eq_true, decide_eq_true_eq]
/-- A valid user. -/
def usrB (c p : ByteArray) (g d : Int) : Bool := seqB c && (bitsB p && (usrG g d && decide ((p.size : Int) * (c.size : Int) + d ≤ 3000)))
theorem usrB_iff (c p : ByteArray) (g d : Int) : usrB c p g d = true ↔ seqB c = true ∧ bitsB p = true ∧ (0 ≤ g ∧ g ≤ 1000 ∧ 0 ≤ d ∧ d ≤ 1000) ∧ (p.size : Int) * (c.size : Int) + d ≤ 3000 := by
  unfold usrB; rw [Bool.and_eq_true, Bool.and_eq_true, Bool.and_eq_true, usrG_iff, decide_eq_true_eq]
theorem usr_no {c p : ByteArray} {g d : Int} (h : ¬ (seqB c = true ∧ bitsB p = true ∧ (0 ≤ g ∧ g ≤ 1000 ∧ 0 ≤ d ∧ d ≤ 1000) ∧ (p.size : Int) * (c.size : Int) + d ≤ 3000)) : false = usrB c p g d := by
  cases e : usrB c p g d with
  | false => rfl
  | true => exact absurd ((usrB_iff _ _ _ _).1 e) h
/-- What is left of a size. -/
def szU (c p : ByteArray) (l : Int) : Int := if l - (c.size : Int) < 0 then -1 else if l - (c.size : Int) - (p.size : Int) < 0 then -1 else l - (c.size : Int) - (p.size : Int)
/-- A box with a user. -/
def UsrAt (w : World) (b : Nat) (c p : ByteArray) (g d : Int) : Prop :=
  w.cell? ⟨b, 0, none⟩ = some (.string c) ∧ w.cell? ⟨b, 1, none⟩ = some (.string p) ∧ w.cell? ⟨b, 2, none⟩ = some (.int .i64 g) ∧ w.cell? ⟨b, 3, none⟩ = some (.int .i64 d) ∧ b < w.heap.size
theorem UsrAt.new (w : World) (t : TypeId) (c p : ByteArray) (g d : Int) : UsrAt (w.alloc (.cells #[.string c, .string p, .int .i64 g, .int .i64 d] t)) w.heap.size c p g d := by
  refine ⟨?_, ?_, ?_, ?_, by simp⟩ <;> simp
theorem UsrAt.below {w w' : World} {b B : Nat} {c p : ByteArray} {g d : Int} (h : UsrAt w b c p g d) (hb : Below B w w') (hB : b < B) : UsrAt w' b c p g d :=
  ⟨(hb.cell (p := ⟨b, 0, none⟩) hB).trans h.1, (hb.cell (p := ⟨b, 1, none⟩) hB).trans h.2.1, (hb.cell (p := ⟨b, 2, none⟩) hB).trans h.2.2.1, (hb.cell (p := ⟨b, 3, none⟩) hB).trans h.2.2.2.1, Nat.lt_of_lt_of_le h.2.2.2.2 hb.size⟩
set_option maxHeartbeats 1600000 in
theorem iUser_any (c p : ByteArray) (g d : Int) (w : World) (hc : c.size ≤ 1048576) (hp : p.size ≤ 1048576) :
    Calls Try.prog 25 #[.agg #[.string c, .string p, .int .i64 g, .int .i64 d]] w fun e w' => e = .returned (.bool (usrB c p g d)) ∧ Below w.heap.size w w' := by
  cases hsc : seqB c with
  | false =>
    have HB := Lib.hid (usr_no (c := c) (p := p) (g := g) (d := d) (fun h => by have := h.1; rw [hsc] at this; exact absurd this (by decide)))
    have H1 := Lib.hid (fun w => iSequenceValid_no c w (by omega) hsc)
    clear hsc
    go_enter Try.func25, Try.ntmps25
    go_wp2_with fail
    refine (H1.out _).mono ?_
    rintro e w' ⟨rfl, rfl⟩
    go_wp2
    go_ret
    exact ⟨ret_bool HB.out, by go_grown⟩
  | true =>
    have H1 := Lib.hid (fun w => iSequenceValid_yes c w hsc)
    obtain ⟨c1, c2, c3⟩ := (seqB_iff c).1 hsc
    have hb := fun w => bitsValid_any p w (by omega)
    cases hbp : bitsB p with
    | false =>
      have HB := Lib.hid (usr_no (c := c) (p := p) (g := g) (d := d) (fun h => by have := h.2.1; rw [hbp] at this; exact absurd this (by decide)))
      rw [hbp] at hb
      have H2 := Lib.hid hb
      clear hsc hbp hb c1
      go_enter Try.func25, Try.ntmps25
      go_wp2_with fail
      refine (H1.out _).mono ?_
      rintro e w' ⟨rfl, rfl⟩
      go_wp2_with fail
      refine (H2.out _).mono ?_
      rintro e w' ⟨rfl, rfl⟩
      go_wp2
      go_ret
      exact ⟨ret_bool HB.out, by go_grown⟩
    | true =>
      rw [hbp] at hb
      have H2 := Lib.hid hb
      have p2 := ((bits_iff p).1 hbp).2
      have hP : p.size * c.size ≤ 600 * 255 := Nat.mul_le_mul p2 c3
      have HN := Lib.hid (fun h => usr_no (c := c) (p := p) (g := g) (d := d) h)
      have HY := Lib.hid (fun h3 h4 => (usrB_iff c p g d).2 ⟨hsc, hbp, h3, h4⟩)
      obtain ⟨P, hPP⟩ : ∃ P, p.size * c.size = P := ⟨_, rfl⟩
      have hPI : (p.size : Int) * (c.size : Int) = (P : Int) := by rw [← hPP, Int.natCast_mul]
      rw [hPP] at hP
      rw [hPI] at HN HY
      clear hsc hbp hb c1 hPP
      by_cases g0 : 0 ≤ g
      rotate_left
      · have HB := Lib.hid (HN.out (fun h => absurd h.2.2.1.1 g0))
        clear HN HY
        go_enter Try.func25, Try.ntmps25
        go_wp2_with fail
        refine (H1.out _).mono ?_
        rintro e w' ⟨rfl, rfl⟩
        go_wp2_with fail
        refine (H2.out _).mono ?_
        rintro e w' ⟨rfl, rfl⟩
        go_wp2
        go_ret
        exact ⟨ret_bool HB.out, by go_grown⟩
      by_cases g1 : g ≤ 1000
      rotate_left
      · have HB := Lib.hid (HN.out (fun h => absurd h.2.2.1.2.1 g1))
        clear HN HY
        go_enter Try.func25, Try.ntmps25
        go_wp2_with fail
        refine (H1.out _).mono ?_
        rintro e w' ⟨rfl, rfl⟩
        go_wp2_with fail
        refine (H2.out _).mono ?_
        rintro e w' ⟨rfl, rfl⟩
        go_wp2
        go_ret
        exact ⟨ret_bool HB.out, by go_grown⟩
      by_cases g2 : 0 ≤ d
      rotate_left
      · have HB := Lib.hid (HN.out (fun h => absurd h.2.2.1.2.2.1 g2))
        clear HN HY
        go_enter Try.func25, Try.ntmps25
        go_wp2_with fail
        refine (H1.out _).mono ?_
        rintro e w' ⟨rfl, rfl⟩
        go_wp2_with fail
        refine (H2.out _).mono ?_
        rintro e w' ⟨rfl, rfl⟩
        go_wp2
        go_ret
        exact ⟨ret_bool HB.out, by go_grown⟩
      by_cases g3 : d ≤ 1000
      rotate_left
      · have HB := Lib.hid (HN.out (fun h => absurd h.2.2.1.2.2.2 g3))
        clear HN HY
        go_enter Try.func25, Try.ntmps25
        go_wp2_with fail
        refine (H1.out _).mono ?_
        rintro e w' ⟨rfl, rfl⟩
        go_wp2_with fail
        refine (H2.out _).mono ?_
        rintro e w' ⟨rfl, rfl⟩
        go_wp2
        go_ret
        exact ⟨ret_bool HB.out, by go_grown⟩
      by_cases g4 : (P : Int) + d ≤ 3000
      · have HB := Lib.hid (HY.out ⟨g0, g1, g2, g3⟩ g4).symm
        clear HN HY
        go_enter Try.func25, Try.ntmps25
        go_wp2_with fail
        refine (H1.out _).mono ?_
        rintro e w' ⟨rfl, rfl⟩
        go_wp2_with fail
        refine (H2.out _).mono ?_
        rintro e w' ⟨rfl, rfl⟩
        go_wp2
        go_ret
        exact ⟨ret_bool HB.out, by go_grown⟩
      · have HB := Lib.hid (HN.out (fun h => absurd h.2.2.2 g4))
        clear HN HY
        go_enter Try.func25, Try.ntmps25
        go_wp2_with fail
        refine (H1.out _).mono ?_
        rintro e w' ⟨rfl, rfl⟩
        go_wp2_with fail
        refine (H2.out _).mono ?_
        rintro e w' ⟨rfl, rfl⟩
        go_wp2
        go_ret
        exact ⟨ret_bool ((decide_eq_false (by omega)).trans HB.out), by go_grown⟩
set_option maxHeartbeats 1600000 in
theorem sUser_any (c p : ByteArray) (g d : Int) (w : World) (hc : c.size ≤ 1048576) (hp : p.size ≤ 1048576) :
    Calls Try.prog 27 #[.agg #[.string c, .string p, .int .i64 g, .int .i64 d]] w fun e w' => e = .returned (.bool (usrB c p g d)) ∧ Below w.heap.size w w' := by
  cases hsc : seqB c with
  | false =>
    have HB := Lib.hid (usr_no (c := c) (p := p) (g := g) (d := d) (fun h => by have := h.1; rw [hsc] at this; exact absurd this (by decide)))
    have H1 := Lib.hid (fun w => sSequenceValid_no c w (by omega) hsc)
    clear hsc
    go_enter Try.func27, Try.ntmps27
    go_wp2_with fail
    refine (H1.out _).mono ?_
    rintro e w' ⟨rfl, rfl⟩
    go_wp2
    go_ret
    exact ⟨ret_bool HB.out, by go_grown⟩
  | true =>
    have H1 := Lib.hid (fun w => sSequenceValid_yes c w hsc)
    obtain ⟨c1, c2, c3⟩ := (seqB_iff c).1 hsc
    have hb := fun w => l1Bits_any p w (by omega)
    cases hbp : bitsB p with
    | false =>
      have HB := Lib.hid (usr_no (c := c) (p := p) (g := g) (d := d) (fun h => by have := h.2.1; rw [hbp] at this; exact absurd this (by decide)))
      rw [hbp] at hb
      have H2 := Lib.hid hb
      clear hsc hbp hb c1
      go_enter Try.func27, Try.ntmps27
      go_wp2_with fail
      refine (H1.out _).mono ?_
      rintro e w' ⟨rfl, rfl⟩
      go_wp2_with fail
      refine (H2.out _).mono ?_
      rintro e w' ⟨rfl, rfl⟩
      go_wp2
      go_ret
      exact ⟨ret_bool HB.out, by go_grown⟩
    | true =>
      rw [hbp] at hb
      have H2 := Lib.hid hb
      have p2 := ((bits_iff p).1 hbp).2
      have hP : p.size * c.size ≤ 600 * 255 := Nat.mul_le_mul p2 c3
      have HN := Lib.hid (fun h => usr_no (c := c) (p := p) (g := g) (d := d) h)
      have HY := Lib.hid (fun h3 h4 => (usrB_iff c p g d).2 ⟨hsc, hbp, h3, h4⟩)
      obtain ⟨P, hPP⟩ : ∃ P, p.size * c.size = P := ⟨_, rfl⟩
      have hPI : (p.size : Int) * (c.size : Int) = (P : Int) := by rw [← hPP, Int.natCast_mul]
      rw [hPP] at hP
      rw [hPI] at HN HY
      clear hsc hbp hb c1 hPP
      by_cases g0 : 0 ≤ g
      rotate_left
      · have HB := Lib.hid (HN.out (fun h => absurd h.2.2.1.1 g0))
        have I1 := Lib.hid (fun w => l1In_no g 0 1000 w (by omega))
        clear HN HY
        go_enter Try.func27, Try.ntmps27
        go_wp2_with fail
        refine (H1.out _).mono ?_
        rintro e w' ⟨rfl, rfl⟩
        go_wp2_with fail
        refine (H2.out _).mono ?_
        rintro e w' ⟨rfl, rfl⟩
        go_wp2_with fail
        refine (I1.out _).mono ?_
        rintro e w' ⟨rfl, rfl⟩
        go_wp2
        go_ret
        exact ⟨ret_bool HB.out, by go_grown⟩
      by_cases g1 : g ≤ 1000
      rotate_left
      · have HB := Lib.hid (HN.out (fun h => absurd h.2.2.1.2.1 g1))
        have I1 := Lib.hid (fun w => l1In_no g 0 1000 w (by omega))
        clear HN HY
        go_enter Try.func27, Try.ntmps27
        go_wp2_with fail
        refine (H1.out _).mono ?_
        rintro e w' ⟨rfl, rfl⟩
        go_wp2_with fail
        refine (H2.out _).mono ?_
        rintro e w' ⟨rfl, rfl⟩
        go_wp2_with fail
        refine (I1.out _).mono ?_
        rintro e w' ⟨rfl, rfl⟩
        go_wp2
        go_ret
        exact ⟨ret_bool HB.out, by go_grown⟩
      by_cases g2 : 0 ≤ d
      rotate_left
      · have HB := Lib.hid (HN.out (fun h => absurd h.2.2.1.2.2.1 g2))
        have I1 := Lib.hid (fun w => l1In_yes g 0 1000 w (by omega) (by omega))
        have I2 := Lib.hid (fun w => l1In_no d 0 1000 w (by omega))
        clear HN HY
        go_enter Try.func27, Try.ntmps27
        go_wp2_with fail
        refine (H1.out _).mono ?_
        rintro e w' ⟨rfl, rfl⟩
        go_wp2_with fail
        refine (H2.out _).mono ?_
        rintro e w' ⟨rfl, rfl⟩
        go_wp2_with fail
        refine (I1.out _).mono ?_
        rintro e w' ⟨rfl, rfl⟩
        go_wp2_with fail
        refine (I2.out _).mono ?_
        rintro e w' ⟨rfl, rfl⟩
        go_wp2
        go_ret
        exact ⟨ret_bool HB.out, by go_grown⟩
      by_cases g3 : d ≤ 1000
      rotate_left
      · have HB := Lib.hid (HN.out (fun h => absurd h.2.2.1.2.2.2 g3))
        have I1 := Lib.hid (fun w => l1In_yes g 0 1000 w (by omega) (by omega))
        have I2 := Lib.hid (fun w => l1In_no d 0 1000 w (by omega))
        clear HN HY
        go_enter Try.func27, Try.ntmps27
        go_wp2_with fail
        refine (H1.out _).mono ?_
        rintro e w' ⟨rfl, rfl⟩
        go_wp2_with fail
        refine (H2.out _).mono ?_
        rintro e w' ⟨rfl, rfl⟩
        go_wp2_with fail
        refine (I1.out _).mono ?_
        rintro e w' ⟨rfl, rfl⟩
        go_wp2_with fail
        refine (I2.out _).mono ?_
        rintro e w' ⟨rfl, rfl⟩
        go_wp2
        go_ret
        exact ⟨ret_bool HB.out, by go_grown⟩
      by_cases g4 : (P : Int) + d ≤ 3000
      · have HB := Lib.hid (HY.out ⟨g0, g1, g2, g3⟩ g4).symm
        have I1 := Lib.hid (fun w => l1In_yes g 0 1000 w (by omega) (by omega))
        have I2 := Lib.hid (fun w => l1In_yes d 0 1000 w (by omega) (by omega))
        clear HN HY
        go_enter Try.func27, Try.ntmps27
        go_wp2_with fail
        refine (H1.out _).mono ?_
        rintro e w' ⟨rfl, rfl⟩
        go_wp2_with fail
        refine (H2.out _).mono ?_
        rintro e w' ⟨rfl, rfl⟩
        go_wp2_with fail
        refine (I1.out _).mono ?_
        rintro e w' ⟨rfl, rfl⟩
        go_wp2_with fail
        refine (I2.out _).mono ?_
        rintro e w' ⟨rfl, rfl⟩
        go_wp2
        go_ret
        exact ⟨ret_bool HB.out, by go_grown⟩
      · have HB := Lib.hid (HN.out (fun h => absurd h.2.2.2 g4))
        have I1 := Lib.hid (fun w => l1In_yes g 0 1000 w (by omega) (by omega))
        have I2 := Lib.hid (fun w => l1In_yes d 0 1000 w (by omega) (by omega))
        clear HN HY
        go_enter Try.func27, Try.ntmps27
        go_wp2_with fail
        refine (H1.out _).mono ?_
        rintro e w' ⟨rfl, rfl⟩
        go_wp2_with fail
        refine (H2.out _).mono ?_
        rintro e w' ⟨rfl, rfl⟩
        go_wp2_with fail
        refine (I1.out _).mono ?_
        rintro e w' ⟨rfl, rfl⟩
        go_wp2_with fail
        refine (I2.out _).mono ?_
        rintro e w' ⟨rfl, rfl⟩
        go_wp2
        go_ret
        exact ⟨ret_bool ((decide_eq_false (by omega)).trans HB.out), by go_grown⟩
end Go.Proofs.Ythfcfnamaedffaa
