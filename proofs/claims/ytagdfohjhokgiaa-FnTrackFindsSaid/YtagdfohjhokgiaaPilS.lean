/- The program's loop: step. -/
import Derived.Test.YtagdfohjhokgiaaPil8
namespace Go.Proofs.Ytagdfohjhokgiaa
open Go.RowKit
set_option linter.unusedVariables false
set_option maxRecDepth 100000
set_option maxHeartbeats 20000000 in
theorem iStep_any (bl bs : Nat) (v : Value) (n : Nat) (f : Nat → Int) (vt : Value) (c : ByteArray) (G P K : Nat) (w : World) (h : LoopOK w bl bs v n f vt c G P K) (hG : G ≤ 8) (hK : K < P) :
    Calls Try.prog 91 #[.pointer (some ⟨bl, 0, none⟩)] w fun e w' => e = .returned (.int .i64 (stN n f c G P K : Int)) ∧ LoopOK w' bl bs v n f vt c G P (stN n f c G P K) ∧ w.grownBy w' (some bl) := by
  have HLO := Lib.hid h
  obtain ⟨c0, c1, c2, c3, hl, hlt, hS⟩ := h
  obtain ⟨⟨d0, d1, d2, -, -⟩, -, -, -, -, -, q8, q9⟩ := hS
  have hD := fun (W : World) (hb : Below w.heap.size w W) => iDisc_any bl bs v n f vt c G P K W (HLO.out.below hb) hG hK
  have hsg : -1 ≤ sgI (elD n f c G P K) ∧ sgI (elD n f c G P K) ≤ 1 := by unfold sgI; split <;> (try split) <;> omega
  have hst : stN n f c G P K = modN ((K : Int) + sgI (elD n f c G P K)) P := rfl
  obtain ⟨D, hDD⟩ : ∃ D, elD n f c G P K = D := ⟨_, rfl⟩
  rw [hDD] at hD hsg hst
  obtain ⟨s, hs⟩ : ∃ s, sgI D = s := ⟨_, rfl⟩
  have hC := fun w => cmp_zero D w
  rw [hs] at hsg hst hC
  have hM := fun w => modulo_big ((K : Int) + s) P w (by omega) (by omega)
  rw [← hst] at hM
  obtain ⟨J, hJ⟩ : ∃ J, stN n f c G P K = J := ⟨_, rfl⟩
  rw [hJ] at hM ⊢
  have HD := Lib.hid hD
  have HC := Lib.hid hC
  have HM := Lib.hid hM
  have v1 : IntKind.i64.wrap ((K : Int) + s) = (K : Int) + s := IntWalk.i64_in _ (by omega)
  clear hD hDD hs hst hC hM hJ hsg
  go_enter Try.func91, Try.ntmps91
  go_wp2_with fail
  have HF1 : Hid (∀ m, LoopOK ((w.drewN m).setCell ⟨bl, 2, none⟩ (.int .i64 (J : Int))) bl bs v n f vt c G P J) := Lib.hid (fun m => (HLO.out.drewN m).move J)
  have HF2 : Hid (∀ m, LoopOK ((w.setCell ⟨bl, 2, none⟩ (.int .i64 (J : Int))).drewN m) bl bs v n f vt c G P J) := Lib.hid (fun m => (HLO.out.move J).drewN m)
  have HG1 : Hid (∀ m, w.grownBy ((w.drewN m).setCell ⟨bl, 2, none⟩ (.int .i64 (J : Int))) (some bl)) := Lib.hid (fun m => (grownBy_drewN' w m _).trans ⟨rfl, rfl, rfl, by simp, fun k hk hne => Below.heap_setCell _ _ _ _ (fun e => hne (by rw [e]))⟩)
  have HG2 : Hid (∀ m, w.grownBy ((w.setCell ⟨bl, 2, none⟩ (.int .i64 (J : Int))).drewN m) (some bl)) := Lib.hid (fun m => (show w.grownBy (w.setCell ⟨bl, 2, none⟩ (.int .i64 (J : Int))) (some bl) from ⟨rfl, rfl, rfl, by simp, fun k hk hne => Below.heap_setCell _ _ _ _ (fun e => hne (by rw [e]))⟩).trans (grownBy_drewN' _ m _))
  have e1 : ∀ m, ((w.drewN m).setCell ⟨bl, 2, none⟩ (.int .i64 (J : Int))).cell? ⟨bl, 2, none⟩ = some (.int .i64 (J : Int)) := fun m => (HF1.out m).2.2.1
  have e2 : ∀ m, ((w.setCell ⟨bl, 2, none⟩ (.int .i64 (J : Int))).drewN m).cell? ⟨bl, 2, none⟩ = some (.int .i64 (J : Int)) := fun m => (HF2.out m).2.2.1
  have r0 := Below.refl w.heap.size w
  go_region_with (first | (go_at_call 90; refine (HD.out _ (by first | exact r0.drew | exact r0)).mono ?_; rintro e w5 ⟨rfl, m, rfl⟩) | (go_at_call 92; refine (HC.out _).mono ?_; rintro e w5 ⟨rfl, rfl⟩) | (go_at_call 26; refine (HM.out _).mono ?_; rintro e w5 ⟨rfl, rfl⟩))
  all_goals
    clear r0 v1 c0 c1 c2 c3 d0 d1 d2
    go_wp2
    go_ret
    first | exact ⟨rfl, HF1.out _, HG1.out _⟩ | exact ⟨rfl, HF2.out _, HG2.out _⟩
end Go.Proofs.Ytagdfohjhokgiaa
