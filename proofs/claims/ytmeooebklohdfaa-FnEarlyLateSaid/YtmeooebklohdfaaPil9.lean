/- The program's EarlyLate: a call through the interface. -/
import Derived.Test.YtmeooebklohdfaaPil8
namespace Go.Proofs.Ytmeooebklohdfaa
open Go.RowKit
set_option linter.unusedVariables false
set_option maxRecDepth 100000
set_option maxHeartbeats 1600000 in
theorem iEarly_any (v : Value) (n : Nat) (f : Nat → Int) (c : ByteArray) (g k : Int) (w : World) (h : IntsC w v n f) (hn : n ≤ 1048576) (hc : c.size ≤ 1048576) :
    Calls Try.prog 42 #[v, .agg #[.string c, .int .i64 g], .int .i64 k] w fun e w' => e = .returned (.tuple #[.int .i64 (elAns n f c g k).1, .bool (elAns n f c g k).2]) ∧ Below w.heap.size w w' := by
  have HI := Lib.hid h
  cases hr : roB n f c g k with
  | false =>
    have HA := Lib.hid (fun w h => iLoop_no v n f c g k w h hn hc hr)
    rw [el_no hr]
    clear hr
    obtain ⟨a, cap, rfl, -⟩ := h
    have b0 := (Below.refl w.heap.size w).alloc (Nat.le_refl _) (.cells #[.string c, .int .i64 g] 24)
    have u0 := PilAt.new w 24 c g
    go_enter Try.func42, Try.ntmps42
    go_wp2_with fail
    refine (HA.out _ (HI.out.below b0)).mono ?_
    rintro e w1 ⟨rfl, n1⟩
    have b1 := below_then b0 (Nat.le_refl _) n1
    clear n1 b0 u0
    go_wp2
    go_ret2
    exact ⟨rfl, b1⟩
  | true =>
    obtain ⟨hs, ho⟩ := (roB_iff _ _ _ _ _).1 hr
    obtain ⟨hp, k0, k1⟩ := (offB_iff _ _ _).1 ho
    obtain ⟨K, rfl⟩ : ∃ K : Nat, k = K := ⟨k.toNat, by omega⟩
    obtain ⟨G, hG, q1, q2, -, -, -, -, -, -, -⟩ := pil_nat hp
    have HA := Lib.hid (fun w h => iLoop_yes v n f c g K w h hr)
    have HD := Lib.hid (fun bl bs vt W hL => iDisc_any bl bs v n f vt c g.toNat (perL c g) K W hL (by omega) (by omega))
    rw [el_yes hr]
    clear hr hs ho hp k0 k1 hG
    obtain ⟨a, cap, rfl, -⟩ := h
    have b0 := (Below.refl w.heap.size w).alloc (Nat.le_refl _) (.cells #[.string c, .int .i64 g] 24)
    have u0 := PilAt.new w 24 c g
    go_enter Try.func42, Try.ntmps42
    go_wp2_with fail
    refine (HA.out _ (HI.out.below b0)).mono ?_
    rintro e w1 ⟨bl, bs, vt, rfl, HL, hb, n1⟩
    have b1 := below_then b0 (Nat.le_refl _) n1
    clear n1 b0 u0 hb
    go_wp2_with fail
    refine (HD.out _ _ _ _ HL).mono ?_
    rintro e w' ⟨rfl, m, rfl⟩
    have b2 := below_drewN b1 m
    clear HL b1
    go_wp2
    go_ret2
    exact ⟨rfl, b2⟩
end Go.Proofs.Ytmeooebklohdfaa
