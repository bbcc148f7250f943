/- Contracts of the draws of offsets near one. -/
import Derived.Test.YtmeooebklohdfaaDrawPil
import Derived.Deep.RegionWith
namespace Go.Proofs.Ytmeooebklohdfaa
open Go.RowKit
set_option linter.unusedVariables false
set_option maxRecDepth 100000
theorem DrP.per {c : ByteArray} {g : Int} (h : DrP c g) : 1 ≤ perL c g ∧ perL c g ≤ 90 := by
  obtain ⟨G, rfl, -, -, -, -, -, -, h1, h2, -⟩ := pil_nat h.ok
  refine ⟨h2, ?_⟩
  have : c.size * G ≤ 15 * 6 := Nat.mul_le_mul h.2.1 (by have := h.2.2.2; omega)
  omega
theorem drewRowQ (V : World) (row : Option Nat) : V.grownBy V.drew row := ⟨rfl, rfl, rfl, Nat.le_refl _, fun _ _ _ => rfl⟩
theorem near_pick (b G q : Nat) (zs : List Int) (W : World) (h : RdAt W b q zs) (hq : q ≤ 900000) (hG : G ≤ 8) :
    Calls Try.prog 61 #[.pointer (some ⟨b, 0, none⟩), .int .i64 (IntKind.i64.wrap (IntKind.i64.wrap (2 * (G : Int)) + 1))] W (PickPost (2 * G + 1) b q zs W) := by
  rw [show IntKind.i64.wrap (IntKind.i64.wrap (2 * (G : Int)) + 1) = ((2 * G + 1 : Nat) : Int) by rw [IntWalk.i64_in (2 * (G : Int)) (by omega), IntWalk.i64_in _ (by omega)]; omega]
  exact pick_any b q (2 * G + 1) zs W h (by omega) (by omega) (by omega)
theorem near_mod (o : Int) (k G P : Nat) (W : World) (h0 : 0 ≤ o) (h1 : o ≤ 100000) (hk : k ≤ 100) (hG : G ≤ 8) (hP : 1 ≤ P) (hP2 : P ≤ 100000) :
    Calls Try.prog 98 #[.int .i64 (IntKind.i64.wrap (IntKind.i64.wrap (o + (k : Int)) - (G : Int))), .int .i64 P] W fun e w' => e = .returned (.int .i64 (modN (o + (k : Int) - (G : Int)) P : Nat)) ∧ W = w' := by
  rw [show IntKind.i64.wrap (IntKind.i64.wrap (o + (k : Int)) - (G : Int)) = o + (k : Int) - (G : Int) by rw [IntWalk.i64_in (o + (k : Int)) (by omega), IntWalk.i64_in _ (by omega)]]
  exact l2Mod_big _ P W hP (by omega)
/-- An offset was drawn. -/
def NearPost (b p : Nat) (zs : List Int) (w : World) (e : Ending) (w' : World) : Prop :=
  ∃ (k : Int) (q : Nat), e = .returned (.int .i64 k) ∧ FitsI k ∧ q ≤ p + 10 ∧ RdAt w' b q zs ∧ w.grownBy w' (some b)
set_option maxHeartbeats 6400000 in
theorem l5Near_any (b p : Nat) (zs : List Int) (c : ByteArray) (g o : Int) (w : World) (hr : RdAt w b p zs) (hp : p ≤ 800000) (hd : DrP c g) (h0 : 0 ≤ o) (h1 : o ≤ 100000) :
    Calls Try.prog 60 #[.pointer (some ⟨b, 0, none⟩), .agg #[.string c, .int .i64 g], .int .i64 o] w (NearPost b p zs w) := by
  have hbl := hr.1
  have hper := hd.per
  have HL := Lib.hid (fun w => l5Length_yes c g w hd.ok)
  obtain ⟨G, hG⟩ : ∃ G : Nat, g = (G : Int) := ⟨g.toNat, by have := hd.2.2.1; omega⟩
  have hG8 : G ≤ 8 := by have := hd.2.2.2; omega
  obtain ⟨P, hP⟩ : ∃ P, perL c g = P := ⟨_, rfl⟩
  rw [hP] at HL hper
  rw [hG] at HL ⊢
  have r0 := hr.alloc (.cells #[.string c, .int .i64 (G : Int)] 24)
  have Q0 := PilAt.new w 24 c (G : Int)
  have g0 := World.grownBy_alloc w (.cells #[.string c, .int .i64 (G : Int)] 24) (some b)
  clear hr hd hP hG
  go_enter Try.func60, Try.ntmps60
  go_wp2_with fail
  refine (pick_any b p 20 zs _ r0 (by omega) (by omega) (by omega)).mono ?_
  rintro e w1 ⟨k, hk, rfl, r1, h1'⟩
  have g1 := g0.trans h1'
  have Q1 := Q0.kept h1' (by simp; omega)
  clear r0 Q0 g0 h1'
  have n0 : ¬ ((P : Int) = 0) := by omega
  have n1 : ((P : Int) == 0) = false := by simp; omega
  have n2 : ¬ P = 0 := by omega
  by_cases k0 : k = 0
  · subst k0
    obtain ⟨c0, c1, cl⟩ := id Q1
    clear hk Q1
    go_wp2_with fail
    refine (HL.out _).mono ?_
    rintro e w2 ⟨rfl, hb2⟩
    have r2 := r1.below hb2
    have g2 := g1.trans (grow hb2 (some b))
    clear r1 g1 hb2 c0 c1 cl
    go_wp2_with fail
    refine (num_any b (p + 1) zs _ w2.heap.size 3 [-1, (P : Int), 9223372036854775807] (r2.alloc _) (IntsAt.new w2 _ [-1, (P : Int), 9223372036854775807]) rfl r2.1 (by omega) (by omega) (by omega)).mono ?_
    rintro e w3 ⟨v, hv, rfl, r3, h3⟩
    have hF : FitsI v := by
      simp only [List.mem_cons, List.not_mem_nil, or_false] at hv
      unfold FitsI; omega
    have g3 := g2.trans ((World.grownBy_alloc w2 _ (some b)).trans h3)
    clear hv r2 g2 h3
    go_wp2
    go_ret
    exact ⟨v, p + 1 + 1, rfl, hF, by omega, r3, g3⟩
  have rA : RdAt w1.drew b (p + 1) zs := r1.below (Below.refl _ _).drew
  have gA : w.grownBy w1.drew (some b) := g1.trans (drewRowQ w1 (some b))
  have QA : PilAt w1.drew w.heap.size c (G : Int) := Q1.kept (drewRowQ w1 none) (by simp)
  obtain ⟨a0, a1, al⟩ := id QA
  have t0 : ((k : Int) == 0) = false := by simp; omega
  by_cases k3 : k = 1 ∨ k = 2 ∨ k = 3
  · rcases k3 with rfl | rfl | rfl
    all_goals
      clear hk Q1 r1 g1
      go_wp2_with fail
      go_region_with ((first
        | (go_at_call 61; ((refine (pick_any b (p + 1) 256 zs _ (by first | exact rA | exact rA.below hb6) (by omega) (by omega) (by omega)).mono ?_); rintro e w5 ⟨k5, hk5, rfl, r5, g5⟩; (have M5 : PilAt w5 w.heap.size c (G : Int) := (by first | exact QA.kept g5 (by simp; omega) | exact (QA.below hb6 QA.2.2).kept g5 (by simp; omega))); obtain ⟨m0, m1, ml⟩ := id M5))
        | (go_at_call 70; ((refine (HL.out _).mono ?_); rintro e w6 ⟨rfl, hb6⟩))))
      all_goals
        have hF : FitsI ((k5 : Int).tmod (P : Int)) := by
          have := tmod_bd (k5 : Int) P (by omega)
          unfold FitsI; omega
        go_wp2
        go_ret
        first
          | exact ⟨_, p + 1 + 1, rfl, hF, by omega, r5.below hb6, (gA.trans g5).trans (grow hb6 (some b))⟩
          | exact ⟨_, p + 1 + 1, rfl, hF, by omega, r5, (gA.trans (grow hb6 (some b))).trans g5⟩
  · have t1 : ((k : Int) == 1) = false := by simp; omega
    have t2 : ((k : Int) == 2) = false := by simp; omega
    have t3 : ((k : Int) == 3) = false := by simp; omega
    have HP := Lib.hid (fun W q (h : RdAt W b q zs) (hq : q ≤ 900000) => near_pick b G q zs W h hq hG8)
    have HM := Lib.hid (fun (k : Nat) W (hk : k ≤ 100) => near_mod o k G P W h0 h1 hk hG8 hper.1 (by omega))
    clear Q1 r1 g1
    go_wp2_with fail
    go_region_with ((first
      | (go_at_call 61; ((refine (HP.out _ (p + 1) (by first | exact rA | exact rA.below hb6) (by omega)).mono ?_); rintro e w5 ⟨k5, hk5, rfl, r5, g5⟩; (have M5 : PilAt w5 w.heap.size c (G : Int) := (by first | exact QA.kept g5 (by simp; omega) | exact (QA.below hb6 QA.2.2).kept g5 (by simp; omega))); obtain ⟨m0, m1, ml⟩ := id M5))
      | (go_at_call 70; ((refine (HL.out _).mono ?_); rintro e w6 ⟨rfl, hb6⟩; (have M6 : PilAt w6 w.heap.size c (G : Int) := (by first | exact M5.below hb6 M5.2.2 | exact QA.below hb6 QA.2.2)); obtain ⟨x0, x1, xl⟩ := id M6))
      | (go_at_call 98; ((refine (HM.out k5 _ (by omega)).mono ?_); rintro e w7 ⟨rfl, rfl⟩))))
    all_goals
      have hF : FitsI ((modN (o + (k5 : Int) - (G : Int)) P : Nat) : Int) := by
        have := modN_lt (o + (k5 : Int) - (G : Int)) P (by omega)
        unfold FitsI; omega
      go_wp2
      go_ret
      first
        | exact ⟨_, p + 1 + 1, rfl, hF, by omega, r5.below hb6, (gA.trans g5).trans (grow hb6 (some b))⟩
        | exact ⟨_, p + 1 + 1, rfl, hF, by omega, r5, (gA.trans (grow hb6 (some b))).trans g5⟩
end Go.Proofs.Ytmeooebklohdfaa
