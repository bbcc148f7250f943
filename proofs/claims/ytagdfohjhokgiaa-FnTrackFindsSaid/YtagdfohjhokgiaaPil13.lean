/- PilotSignal of both sides. -/
import Derived.Test.YtagdfohjhokgiaaPil4
import Derived.Test.YtagdfohjhokgiaaPilK
namespace Go.Proofs.Ytagdfohjhokgiaa
open Go.RowKit
set_option linter.unusedVariables false
set_option maxRecDepth 100000
def psB (q a : Int) : Bool := decide (0 ≤ q) && (decide (q ≤ 3000) && (decide (-1000 ≤ a) && decide (a ≤ 1000)))
theorem psB_iff (q a : Int) : psB q a = true ↔ 0 ≤ q ∧ q ≤ 3000 ∧ -1000 ≤ a ∧ a ≤ 1000 := by unfold psB; simp only [Bool.and_eq_true, decide_eq_true_eq]
def psOK (c : ByteArray) (g k q a : Int) : Bool := offB c g k && psB q a
def psN (c : ByteArray) (g k q a : Int) : Nat := if psOK c g k q a then q.toNat else 0
def psF (c : ByteArray) (g k a : Int) : Nat → Int := scF a (plF c g.toNat (perL c g) k)
theorem psN_le (c : ByteArray) (g k q a : Int) : psN c g k q a ≤ 3000 := by
  unfold psN psOK
  split
  · rename_i h
    rw [Bool.and_eq_true] at h
    have := (psB_iff _ _).1 h.2
    omega
  · omega
theorem psN_le6 (c : ByteArray) (g k q a : Int) : psN c g k q a ≤ 1000000 := Nat.le_trans (psN_le c g k q a) (by omega)
theorem ps_no {c : ByteArray} {g k q a : Int} (h : ¬ (offB c g k = true ∧ psB q a = true)) : psOK c g k q a = false ∧ psN c g k q a = 0 := by
  have e : psOK c g k q a = false := by
    cases e : psOK c g k q a with
    | false => rfl
    | true => unfold psOK at e; rw [Bool.and_eq_true] at e; exact absurd e h
  exact ⟨e, by unfold psN; rw [e]; rfl⟩
theorem ps_yes {c : ByteArray} {g k q a : Int} (h1 : offB c g k = true) (h2 : psB q a = true) : psOK c g k q a = true ∧ psN c g k q a = q.toNat := by
  have e : psOK c g k q a = true := by unfold psOK; rw [h1, h2]; rfl
  exact ⟨e, by unfold psN; rw [e]; rfl⟩
theorem ps_bd {c : ByteArray} {G P : Nat} (h : okB c c.size = true) (hP : c.size * G = P) (h1 : 1 ≤ P) {a : Int} (a1 : -1000 ≤ a) (a2 : a ≤ 1000) (k : Int) (i : Nat) : -1000 ≤ a * plF c G P k i ∧ a * plF c G P k i ≤ 1000 := by
  rcases pl_bd h hP h1 k i with e | e <;> rw [e] <;> omega
theorem ps_sig {c : ByteArray} {G P : Nat} (h : okB c c.size = true) (hP : c.size * G = P) (h1 : 1 ≤ P) {a : Int} (a1 : -1000 ≤ a) (a2 : a ≤ 1000) (k : Int) {q : Nat} (hq : q ≤ 3000) : sigB q (plF c G P k) = true ∧ sigB q (scF a (plF c G P k)) = true :=
  ⟨(sigB_iff _ _).2 ⟨allM_of fun i _ => by rcases pl_bd h hP h1 k i with e | e <;> rw [e] <;> omega, hq⟩, (sigB_iff _ _).2 ⟨allM_of fun i _ => by have := ps_bd h hP h1 a1 a2 k i; unfold scF; omega, hq⟩⟩
set_option maxHeartbeats 1600000 in
theorem iPSig_any (c : ByteArray) (g k q a : Int) (w : World) (hc : c.size ≤ 1048576) :
    Calls Try.prog 22 #[.agg #[.string c, .int .i64 g], .int .i64 k, .int .i64 q, .int .i64 a] w fun e w' => ∃ u, e = .returned (.tuple #[u, .bool (psOK c g k q a)]) ∧ OF w' w.heap.size u (psN c g k q a) (psF c g k a) ∧ Below w.heap.size w w' := by
  have hO := fun w => iOff_any c g k w hc
  cases ho : offB c g k with
  | false =>
    rw [ho] at hO
    rw [(ps_no (by rw [ho]; simp)).1, (ps_no (by rw [ho]; simp)).2]
    have HO := Lib.hid hO
    clear hO ho
    have b0 := (Below.refl w.heap.size w).alloc (Nat.le_refl _) (.cells #[.string c, .int .i64 g] 24)
    have u0 := PilAt.new w 24 c g
    go_enter Try.func22, Try.ntmps22
    go_wp2_with fail
    refine (HO.out _).mono ?_
    rintro e w1 ⟨rfl, n1⟩
    have b1 := below_then b0 (Nat.le_refl _) n1
    clear n1 b0 u0
    go_wp2
    go_ret2
    exact ⟨_, rfl, OF.nil _ _ _, b1⟩
  | true =>
    rw [ho] at hO
    have HO := Lib.hid hO
    by_cases e1 : q < 0
    · have hno : ¬ (offB c g k = true ∧ psB q a = true) := fun e => by have := (psB_iff _ _).1 e.2; omega
      rw [(ps_no hno).1, (ps_no hno).2]
      clear hno hO ho
      have b0 := (Below.refl w.heap.size w).alloc (Nat.le_refl _) (.cells #[.string c, .int .i64 g] 24)
      have u0 := PilAt.new w 24 c g
      go_enter Try.func22, Try.ntmps22
      go_wp2_with fail
      refine (HO.out _).mono ?_
      rintro e w1 ⟨rfl, n1⟩
      have b1 := below_then b0 (Nat.le_refl _) n1
      clear n1 b0 u0
      go_wp2
      go_ret2
      exact ⟨_, rfl, OF.nil _ _ _, b1⟩
    by_cases e2 : 3000 < q
    · have hno : ¬ (offB c g k = true ∧ psB q a = true) := fun e => by have := (psB_iff _ _).1 e.2; omega
      rw [(ps_no hno).1, (ps_no hno).2]
      clear hno hO ho
      have b0 := (Below.refl w.heap.size w).alloc (Nat.le_refl _) (.cells #[.string c, .int .i64 g] 24)
      have u0 := PilAt.new w 24 c g
      go_enter Try.func22, Try.ntmps22
      go_wp2_with fail
      refine (HO.out _).mono ?_
      rintro e w1 ⟨rfl, n1⟩
      have b1 := below_then b0 (Nat.le_refl _) n1
      clear n1 b0 u0
      go_wp2
      go_ret2
      exact ⟨_, rfl, OF.nil _ _ _, b1⟩
    by_cases e3 : a < -1000
    · have hno : ¬ (offB c g k = true ∧ psB q a = true) := fun e => by have := (psB_iff _ _).1 e.2; omega
      rw [(ps_no hno).1, (ps_no hno).2]
      clear hno hO ho
      have b0 := (Below.refl w.heap.size w).alloc (Nat.le_refl _) (.cells #[.string c, .int .i64 g] 24)
      have u0 := PilAt.new w 24 c g
      go_enter Try.func22, Try.ntmps22
      go_wp2_with fail
      refine (HO.out _).mono ?_
      rintro e w1 ⟨rfl, n1⟩
      have b1 := below_then b0 (Nat.le_refl _) n1
      clear n1 b0 u0
      go_wp2
      go_ret2
      exact ⟨_, rfl, OF.nil _ _ _, b1⟩
    by_cases e4 : 1000 < a
    · have hno : ¬ (offB c g k = true ∧ psB q a = true) := fun e => by have := (psB_iff _ _).1 e.2; omega
      rw [(ps_no hno).1, (ps_no hno).2]
      clear hno hO ho
      have b0 := (Below.refl w.heap.size w).alloc (Nat.le_refl _) (.cells #[.string c, .int .i64 g] 24)
      have u0 := PilAt.new w 24 c g
      go_enter Try.func22, Try.ntmps22
      go_wp2_with fail
      refine (HO.out _).mono ?_
      rintro e w1 ⟨rfl, n1⟩
      have b1 := below_then b0 (Nat.le_refl _) n1
      clear n1 b0 u0
      go_wp2
      go_ret2
      exact ⟨_, rfl, OF.nil _ _ _, b1⟩
    obtain ⟨hp, k0, k1⟩ := (offB_iff _ _ _).1 ho
    have hb : psB q a = true := (psB_iff _ _).2 ⟨by omega, by omega, by omega, by omega⟩
    rw [(ps_yes ho hb).1, (ps_yes ho hb).2]
    obtain ⟨G, hG, -, -, -, q4, -, -, q7, p8, p9⟩ := pil_nat hp
    have hPS := fun w => iSamples_yes c g k q.toNat w hp (by omega) (by omega) (by omega)
    rw [show ((q.toNat : Nat) : Int) = q by omega] at hPS
    have hsg := ps_sig (G := G) q4 q7 p8 (by omega : -1000 ≤ a) (by omega) k (by omega : q.toNat ≤ 3000)
    have hGn : g.toNat = G := by omega
    have hSC := fun v w h => iScale_any v q.toNat (plF c g.toNat (perL c g) k) a w h (by omega)
    have hin : inM a = true := (inM_iff a).2 ⟨by omega, by omega⟩
    rw [hGn] at hSC hPS
    rw [(scN_in hsg.1 hin).1, (scN_in hsg.1 hin).2, hsg.2, show resN q.toNat (scF a (plF c G (perL c g) k)) = q.toNat by unfold resN; rw [hsg.2]; rfl] at hSC
    have hF : psF c g k a = scF a (plF c G (perL c g) k) := by unfold psF; rw [hGn]
    rw [hF]
    obtain ⟨X, hX⟩ : ∃ X, plF c G (perL c g) k = X := ⟨_, rfl⟩
    rw [hX] at hPS hSC ⊢
    obtain ⟨Y, hY⟩ : ∃ Y, scF a X = Y := ⟨_, rfl⟩
    rw [hY] at hSC ⊢
    obtain ⟨M, hM⟩ : ∃ M, q.toNat = M := ⟨_, rfl⟩
    rw [hM] at hPS hSC ⊢
    have HPS := Lib.hid hPS
    have HSC := Lib.hid hSC
    clear hO ho hp k0 k1 hb hG q4 q7 p8 p9 hPS hsg hGn hSC hin hF hX hY hM
    have b0 := (Below.refl w.heap.size w).alloc (Nat.le_refl _) (.cells #[.string c, .int .i64 g] 24)
    have u0 := PilAt.new w 24 c g
    go_enter Try.func22, Try.ntmps22
    go_wp2_with fail
    refine (HO.out _).mono ?_
    rintro e w1 ⟨rfl, n1⟩
    have b1 := below_then b0 (Nat.le_refl _) n1
    have u1 := u0.below n1 (by simp)
    clear n1 b0 u0
    obtain ⟨x0, x1, x2⟩ := id u1
    go_wp2_with fail
    clear x0 x1 x2
    refine (HPS.out _).mono ?_
    rintro e w2 ⟨vs, rfl, O2, n2⟩
    have b2 := below_then b1 (Nat.le_refl _) n2
    clear n2 b1 u1
    go_wp2_with fail
    refine (HSC.out _ _ O2.ints).mono ?_
    rintro e w9 ⟨v9, rfl, O9, n9⟩
    have HO9 := Lib.hid (O9.mono b2.size)
    have b9 := below_then b2 (Nat.le_refl _) n9
    clear O2 O9 n9 b2
    go_wp2
    go_ret2
    exact ⟨_, rfl, HO9.out, b9⟩
end Go.Proofs.Ytagdfohjhokgiaa
