/- Stations that are valid: both sides. -/
import Derived.Test.YtjnipbopimpggabCel
namespace Go.Proofs.Ytjnipbopimpggab
open Go.RowKit
set_option linter.unusedVariables false
set_option maxRecDepth 100000
set_option maxHeartbeats 1600000 in
theorem iStn_any (c p : ByteArray) (g d : Int) (w : World) (hc : c.size ≤ 9223372036854775807) (hp : p.size ≤ 9223372036854775807) :
    Calls Try.prog 31 #[.agg #[.string c, .string p, .int .i64 g, .int .i64 d]] w fun e w' => e = .returned (.bool (stnB c p g d)) ∧ Below w.heap.size w w' := by
  have b0 := (Below.refl w.heap.size w).alloc (Nat.le_refl _) (.cells #[.string c, .string p, .int .i64 g, .int .i64 d] 30)
  have hn := fun w => nameValid_any c w hc
  have hq := fun w => pathValid_any p w hp
  cases h1 : nameB c with
  | false =>
    rw [h1] at hn
    have HN := Lib.hid hn
    have HB := Lib.hid (stn_no (c := c) (p := p) (g := g) (d := d) (fun h => by rw [h1] at h; exact absurd h.1 (by decide)))
    clear hn hq h1
    go_enter Try.func31, Try.ntmps31
    go_wp2_with fail
    refine (HN.out _).mono ?_
    rintro e w' ⟨rfl, rfl⟩
    go_wp2
    go_ret
    exact ⟨ret_bool HB.out, b0⟩
  | true =>
    rw [h1] at hn
    have HN := Lib.hid hn
    clear hn
    cases h2 : pathB p with
    | false =>
      rw [h2] at hq
      have HQ := Lib.hid hq
      have HB := Lib.hid (stn_no (c := c) (p := p) (g := g) (d := d) (fun h => by rw [h2] at h; exact absurd h.2.1 (by decide)))
      clear hq h1 h2
      go_enter Try.func31, Try.ntmps31
      go_wp2_with fail
      refine (HN.out _).mono ?_
      rintro e w' ⟨rfl, rfl⟩
      go_wp2_with fail
      refine (HQ.out _).mono ?_
      rintro e w' ⟨rfl, rfl⟩
      go_wp2
      go_ret
      exact ⟨ret_bool HB.out, b0⟩
    | true =>
      rw [h2] at hq
      have HQ := Lib.hid hq
      clear hq
      by_cases g0 : 0 ≤ g
      rotate_left
      · have HB := Lib.hid (stn_no (c := c) (p := p) (g := g) (d := d) (fun h => absurd h.2.2.1 g0))
        clear h1 h2
        go_enter Try.func31, Try.ntmps31
        go_wp2_with fail
        refine (HN.out _).mono ?_
        rintro e w' ⟨rfl, rfl⟩
        go_wp2_with fail
        refine (HQ.out _).mono ?_
        rintro e w' ⟨rfl, rfl⟩
        go_wp2
        go_ret
        exact ⟨ret_bool HB.out, b0⟩
      by_cases g1 : g ≤ 1000
      rotate_left
      · have HB := Lib.hid (stn_no (c := c) (p := p) (g := g) (d := d) (fun h => absurd h.2.2.2.1 g1))
        clear h1 h2
        go_enter Try.func31, Try.ntmps31
        go_wp2_with fail
        refine (HN.out _).mono ?_
        rintro e w' ⟨rfl, rfl⟩
        go_wp2_with fail
        refine (HQ.out _).mono ?_
        rintro e w' ⟨rfl, rfl⟩
        go_wp2
        go_ret
        exact ⟨ret_bool HB.out, b0⟩
      by_cases g2 : 1 ≤ d
      rotate_left
      · have HB := Lib.hid (stn_no (c := c) (p := p) (g := g) (d := d) (fun h => absurd h.2.2.2.2.1 g2))
        have HL := Lib.hid (fun w => (by have := lossValid_any d w; rw [in_no (lo := 1) (hi := 20) (n := d) (by omega)] at this; exact this : Calls Try.prog 39 #[.int .i64 d] w fun e w' => e = .returned (.bool false) ∧ w = w'))
        clear h1 h2
        go_enter Try.func31, Try.ntmps31
        go_wp2_with fail
        refine (HN.out _).mono ?_
        rintro e w' ⟨rfl, rfl⟩
        go_wp2_with fail
        refine (HQ.out _).mono ?_
        rintro e w' ⟨rfl, rfl⟩
        go_wp2_with fail
        refine (HL.out _).mono ?_
        rintro e w' ⟨rfl, rfl⟩
        go_wp2
        go_ret
        exact ⟨ret_bool HB.out, b0⟩
      by_cases g3 : d ≤ 20
      rotate_left
      · have HB := Lib.hid (stn_no (c := c) (p := p) (g := g) (d := d) (fun h => absurd h.2.2.2.2.2 g3))
        have HL := Lib.hid (fun w => (by have := lossValid_any d w; rw [in_no (lo := 1) (hi := 20) (n := d) (by omega)] at this; exact this : Calls Try.prog 39 #[.int .i64 d] w fun e w' => e = .returned (.bool false) ∧ w = w'))
        clear h1 h2
        go_enter Try.func31, Try.ntmps31
        go_wp2_with fail
        refine (HN.out _).mono ?_
        rintro e w' ⟨rfl, rfl⟩
        go_wp2_with fail
        refine (HQ.out _).mono ?_
        rintro e w' ⟨rfl, rfl⟩
        go_wp2_with fail
        refine (HL.out _).mono ?_
        rintro e w' ⟨rfl, rfl⟩
        go_wp2
        go_ret
        exact ⟨ret_bool HB.out, b0⟩
      have HB := Lib.hid (stn_yes (c := c) (p := p) (g := g) (d := d) ⟨h1, h2, g0, g1, g2, g3⟩)
      have HL := Lib.hid (fun w => (by have := lossValid_any d w; rw [in_yes (lo := 1) (hi := 20) (n := d) g2 g3] at this; exact this : Calls Try.prog 39 #[.int .i64 d] w fun e w' => e = .returned (.bool true) ∧ w = w'))
      clear h1 h2
      go_enter Try.func31, Try.ntmps31
      go_wp2_with fail
      refine (HN.out _).mono ?_
      rintro e w' ⟨rfl, rfl⟩
      go_wp2_with fail
      refine (HQ.out _).mono ?_
      rintro e w' ⟨rfl, rfl⟩
      go_wp2_with fail
      refine (HL.out _).mono ?_
      rintro e w' ⟨rfl, rfl⟩
      go_wp2
      go_ret
      exact ⟨ret_bool HB.out, b0⟩
set_option maxHeartbeats 1600000 in
theorem sStn_any (c p : ByteArray) (g d : Int) (w : World) (hc : c.size ≤ 9223372036854775807) (hp : p.size ≤ 9223372036854775807) :
    Calls Try.prog 52 #[.agg #[.string c, .string p, .int .i64 g, .int .i64 d]] w fun e w' => e = .returned (.bool (stnB c p g d)) ∧ Below w.heap.size w w' := by
  have b0 := (Below.refl w.heap.size w).alloc (Nat.le_refl _) (.cells #[.string c, .string p, .int .i64 g, .int .i64 d] 30)
  have hn := fun w => l8Name_any c w hc
  have hq := fun w => l3Path_any p w hp
  cases h1 : nameB c with
  | false =>
    rw [h1] at hn
    have HN := Lib.hid hn
    have HB := Lib.hid (stn_no (c := c) (p := p) (g := g) (d := d) (fun h => by rw [h1] at h; exact absurd h.1 (by decide)))
    clear hn hq h1
    go_enter Try.func52, Try.ntmps52
    go_wp2_with fail
    refine (HN.out _).mono ?_
    rintro e w' ⟨rfl, rfl⟩
    go_wp2
    go_ret
    exact ⟨ret_bool HB.out, b0⟩
  | true =>
    rw [h1] at hn
    have HN := Lib.hid hn
    clear hn
    cases h2 : pathB p with
    | false =>
      rw [h2] at hq
      have HQ := Lib.hid hq
      have HB := Lib.hid (stn_no (c := c) (p := p) (g := g) (d := d) (fun h => by rw [h2] at h; exact absurd h.2.1 (by decide)))
      clear hq h1 h2
      go_enter Try.func52, Try.ntmps52
      go_wp2_with fail
      refine (HN.out _).mono ?_
      rintro e w' ⟨rfl, rfl⟩
      go_wp2_with fail
      refine (HQ.out _).mono ?_
      rintro e w' ⟨rfl, rfl⟩
      go_wp2
      go_ret
      exact ⟨ret_bool HB.out, b0⟩
    | true =>
      rw [h2] at hq
      have HQ := Lib.hid hq
      clear hq
      by_cases g0 : 0 ≤ g
      rotate_left
      · have HB := Lib.hid (stn_no (c := c) (p := p) (g := g) (d := d) (fun h => absurd h.2.2.1 g0))
        have HI := Lib.hid (fun w => l1In_no g 0 1000 w (by omega))
        clear h1 h2
        go_enter Try.func52, Try.ntmps52
        go_wp2_with fail
        refine (HN.out _).mono ?_
        rintro e w' ⟨rfl, rfl⟩
        go_wp2_with fail
        refine (HQ.out _).mono ?_
        rintro e w' ⟨rfl, rfl⟩
        go_wp2_with fail
        refine (HI.out _).mono ?_
        rintro e w' ⟨rfl, rfl⟩
        go_wp2
        go_ret
        exact ⟨ret_bool HB.out, b0⟩
      by_cases g1 : g ≤ 1000
      rotate_left
      · have HB := Lib.hid (stn_no (c := c) (p := p) (g := g) (d := d) (fun h => absurd h.2.2.2.1 g1))
        have HI := Lib.hid (fun w => l1In_no g 0 1000 w (by omega))
        clear h1 h2
        go_enter Try.func52, Try.ntmps52
        go_wp2_with fail
        refine (HN.out _).mono ?_
        rintro e w' ⟨rfl, rfl⟩
        go_wp2_with fail
        refine (HQ.out _).mono ?_
        rintro e w' ⟨rfl, rfl⟩
        go_wp2_with fail
        refine (HI.out _).mono ?_
        rintro e w' ⟨rfl, rfl⟩
        go_wp2
        go_ret
        exact ⟨ret_bool HB.out, b0⟩
      by_cases g2 : 1 ≤ d
      rotate_left
      · have HB := Lib.hid (stn_no (c := c) (p := p) (g := g) (d := d) (fun h => absurd h.2.2.2.2.1 g2))
        have HI := Lib.hid (fun w => l1In_yes g 0 1000 w (by omega) (by omega))
        have HL := Lib.hid (fun w => l1In_no d 1 20 w (by omega))
        clear h1 h2
        go_enter Try.func52, Try.ntmps52
        go_wp2_with fail
        refine (HN.out _).mono ?_
        rintro e w' ⟨rfl, rfl⟩
        go_wp2_with fail
        refine (HQ.out _).mono ?_
        rintro e w' ⟨rfl, rfl⟩
        go_wp2_with fail
        refine (HI.out _).mono ?_
        rintro e w' ⟨rfl, rfl⟩
        go_wp2_with fail
        refine (HL.out _).mono ?_
        rintro e w' ⟨rfl, rfl⟩
        go_wp2
        go_ret
        exact ⟨ret_bool HB.out, b0⟩
      by_cases g3 : d ≤ 20
      rotate_left
      · have HB := Lib.hid (stn_no (c := c) (p := p) (g := g) (d := d) (fun h => absurd h.2.2.2.2.2 g3))
        have HI := Lib.hid (fun w => l1In_yes g 0 1000 w (by omega) (by omega))
        have HL := Lib.hid (fun w => l1In_no d 1 20 w (by omega))
        clear h1 h2
        go_enter Try.func52, Try.ntmps52
        go_wp2_with fail
        refine (HN.out _).mono ?_
        rintro e w' ⟨rfl, rfl⟩
        go_wp2_with fail
        refine (HQ.out _).mono ?_
        rintro e w' ⟨rfl, rfl⟩
        go_wp2_with fail
        refine (HI.out _).mono ?_
        rintro e w' ⟨rfl, rfl⟩
        go_wp2_with fail
        refine (HL.out _).mono ?_
        rintro e w' ⟨rfl, rfl⟩
        go_wp2
        go_ret
        exact ⟨ret_bool HB.out, b0⟩
      have HB := Lib.hid (stn_yes (c := c) (p := p) (g := g) (d := d) ⟨h1, h2, g0, g1, g2, g3⟩)
      have HI := Lib.hid (fun w => l1In_yes g 0 1000 w (by omega) (by omega))
      have HL := Lib.hid (fun w => l1In_yes d 1 20 w (by omega) (by omega))
      clear h1 h2
      go_enter Try.func52, Try.ntmps52
      go_wp2_with fail
      refine (HN.out _).mono ?_
      rintro e w' ⟨rfl, rfl⟩
      go_wp2_with fail
      refine (HQ.out _).mono ?_
      rintro e w' ⟨rfl, rfl⟩
      go_wp2_with fail
      refine (HI.out _).mono ?_
      rintro e w' ⟨rfl, rfl⟩
      go_wp2_with fail
      refine (HL.out _).mono ?_
      rintro e w' ⟨rfl, rfl⟩
      go_wp2
      go_ret
      exact ⟨ret_bool HB.out, b0⟩
end Go.Proofs.Ytjnipbopimpggab
