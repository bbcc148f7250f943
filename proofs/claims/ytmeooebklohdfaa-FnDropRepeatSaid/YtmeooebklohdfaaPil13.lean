/- PilotSignal of both sides. -/
import Derived.Test.YtmeooebklohdfaaPil4
import Derived.Test.YtmeooebklohdfaaPilK
namespace Go.Proofs.Ytmeooebklohdfaa
open Go.RowKit
set_option linter.unusedVariables false
set_option maxRecDepth 100000
def psB (q a : Int) : Bool := decide (0 ≤ q) && (decide (q ≤ 3000) && (decide (-1000 ≤ a) && decide (a ≤ 1000)))
theorem psB_iff (q a : Int) : psB q a = true ↔ 0 ≤ q ∧ q ≤ 3000 ∧ -1000 ≤ a ∧ a ≤ 1000 := by unfold psB; simp only [Bool.and_eq_true, decide_eq_true_eq]
def psOK (c : ByteArray) (g k q a : Int) : Bool := offB c g k && psB q a
def psN (c : ByteArray) (g k q a : Int) : Nat := if psOK c g k q a then q.toNat else 0
def psF (c : ByteArray) (g k a : Int) : Nat → Int := scF a (plF c g.toNat (perL c g) k)
theorem psN_le (c : ByteArray) (g k q a : Int) : psN c g k q a ≤ 3000 := by
  unfold psN psOK
  split
  · rename_i h
    rw [Bool.and_eq_true] at h
    have := (psB_iff _ _).1 h.2
    omega
  · omega
theorem psN_le6 (c : ByteArray) (g k q a : Int) : psN c g k q a ≤ 1000000 := Nat.le_trans (psN_le c g k q a) (by omega)
theorem ps_no {c : ByteArray} {g k q a : Int} (h : ¬ (offB c g k = true ∧ psB q a = true)) : psOK c g k q a = false ∧ psN c g k q a = 0 := by
  have e : psOK c g k q a = false := by
    cases e : psOK c g k q a with
    | false => rfl
    | true => unfold psOK at e; rw [Bool.and_eq_true] at e; exact absurd e h
  exact ⟨e, by unfold psN; rw [e]; rfl⟩
theorem ps_yes {c : ByteArray} {g k q a : Int} (h1 : offB c g k = true) (h2 : psB q a = true) : psOK c g k q a = true ∧ psN c g k q a = q.toNat := by
  have e : psOK c g k q a = true := by unfold psOK; rw [h1, h2]; rfl
  exact ⟨e, by unfold psN; rw [e]; rfl⟩
theorem ps_bd {c : ByteArray} {G P : Nat} (h : okB c c.size = true) (hP : c.size * G = P) (h1 : 1 ≤ P) {a : Int} (a1 : -1000 ≤ a) (a2 : a ≤ 1000) (k : Int) (i : Nat) : -1000 ≤ a * plF c G P k i ∧ a * plF c G P k i ≤ 1000 := by
  rcases pl_bd h hP h1 k i with e | e <;> rw [e] <;> omega
theorem ps_sig {c : ByteArray} {G P : Nat} (h : okB c c.size = true) (hP : c.size * G = P) (h1 : 1 ≤ P) {a : Int} (a1 : -1000 ≤ a) (a2 : a ≤ 1000) (k : Int) {q : Nat} (hq : q ≤ 3000) : sigB q (plF c G P k) = true ∧ sigB q (scF a (plF c G P k)) = true :=
  ⟨(sigB_iff _ _).2 ⟨allM_of fun i _ => by rcases pl_bd h hP h1 k i with e | e <;> rw [e] <;> omega, hq⟩, (sigB_iff _ _).2 ⟨allM_of fun i _ => by have := ps_bd h hP h1 a1 a2 k i; unfold scF; omega, hq⟩⟩
set_option maxHeartbeats 1600000 in
theorem iPSig_any (c : ByteArray) (g k q a : Int) (w : World) (hc : c.size ≤ 1048576) :
    Calls Try.prog 14 #[.agg #[.string c, .int .i64 g], .int .i64 k, .int .i64 q, .int .i64 a] w fun e w' => ∃ u, e = .returned (.tuple #[u, .bool (psOK c g k q a)]) ∧ OF w' w.heap.size u (psN c g k q a) (psF c g k a) ∧ Below w.heap.size w w' := by
  have hO := fun w => iOff_any c g k w hc
  cases ho : offB c g k with
  | false =>
    rw [ho] at hO
    rw [(ps_no (by rw [ho]; simp)).1, (ps_no (by rw [ho]; simp)).2]
    have HO := Lib.hid hO
    clear hO ho
    have b0 := (Below.refl w.heap.size w).alloc (Nat.le_refl _) (.cells #[.string c, .int .i64 g] 24)
    have u0 := PilAt.new w 24 c g
    go_enter Try.func14, Try.ntmps14
    go_wp2_with fail
    refine (HO.out _).mono ?_
    rintro e w1 ⟨rfl, n1⟩
    have b1 := below_then b0 (Nat.le_refl _) n1
    clear n1 b0 u0
    go_wp2
    go_ret2
    exact ⟨_, rfl, OF.nil _ _ _, b1⟩
  | true =>
    rw [ho] at hO
    have HO := Lib.hid hO
    by_cases e1 : q < 0
    · have hno : ¬ (offB c g k = true ∧ psB q a = true) := fun e => by have := (psB_iff _ _).1 e.2; omega
      rw [(ps_no hno).1, (ps_no hno).2]
      clear hno hO ho
      have b0 := (Below.refl w.heap.size w).alloc (Nat.le_refl _) (.cells #[.string c, .int .i64 g] 24)
      have u0 := PilAt.new w 24 c g
      go_enter Try.func14, Try.ntmps14
      go_wp2_with fail
      refine (HO.out _).mono ?_
      rintro e w1 ⟨rfl, n1⟩
      have b1 := below_then b0 (Nat.le_refl _) n1
      clear n1 b0 u0
      go_wp2
      go_ret2
      exact ⟨_, rfl, OF.nil _ _ _, b1⟩
    by_cases e2 : 3000 < q
    · have hno : ¬ (offB c g k = true ∧ psB q a = true) := fun e => by have := (psB_iff _ _).1 e.2; omega
      rw [(ps_no hno).1, (ps_no hno).2]
      clear hno hO ho
      have b0 := (Below.refl w.heap.size w).alloc (Nat.le_refl _) (.cells #[.string c, .int .i64 g] 24)
      have u0 := PilAt.new w 24 c g
      go_enter Try.func14, Try.ntmps14
      go_wp2_with fail
      refine (HO.out _).mono ?_
      rintro e w1 ⟨rfl, n1⟩
      have b1 := below_then b0 (Nat.le_refl _) n1
      clear n1 b0 u0
      go_wp2
      go_ret2
      exact ⟨_, rfl, OF.nil _ _ _, b1⟩
    by_cases e3 : a < -1000
    · have hno : ¬ (offB c g k = true ∧ psB q a = true) := fun e => by have := (psB_iff _ _).1 e.2; omega
      rw [(ps_no hno).1, (ps_no hno).2]
      clear hno hO ho
      have b0 := (Below.refl w.heap.size w).alloc (Nat.le_refl _) (.cells #[.string c, .int .i64 g] 24)
      have u0 := PilAt.new w 24 c g
      go_enter Try.func14, Try.ntmps14
      go_wp2_with fail
      refine (HO.out _).mono ?_
      rintro e w1 ⟨rfl, n1⟩
      have b1 := below_then b0 (Nat.le_refl _) n1
      clear n1 b0 u0
      go_wp2
      go_ret2
      exact ⟨_, rfl, OF.nil _ _ _, b1⟩
    by_cases e4 : 1000 < a
    · have hno : ¬ (offB c g k = true ∧ psB q a = true) := fun e => by have := (psB_iff _ _).1 e.2; omega
      rw [(ps_no hno).1, (ps_no hno).2]
      clear hno hO ho
      have b0 := (Below.refl w.heap.size w).alloc (Nat.le_refl _) (.cells #[.string c, .int .i64 g] 24)
      have u0 := PilAt.new w 24 c g
      go_enter Try.func14, Try.ntmps14
      go_wp2_with fail
      refine (HO.out _).mono ?_
      rintro e w1 ⟨rfl, n1⟩
      have b1 := below_then b0 (Nat.le_refl _) n1
      clear n1 b0 u0
      go_wp2
      go_ret2
      exact ⟨_, rfl, OF.nil _ _ _, b1⟩
    obtain ⟨hp, k0, k1⟩ := (offB_iff _ _ _).1 ho
    have hb : psB q a = true := (psB_iff _ _).2 ⟨by omega, by omega, by omega, by omega⟩
    rw [(ps_yes ho hb).1, (ps_yes ho hb).2]
    obtain ⟨G, hG, -, -, -, q4, -, -, q7, p8, p9⟩ := pil_nat hp
    have hPS := fun w => iSamples_yes c g k q.toNat w hp (by omega) (by omega) (by omega)
    rw [show ((q.toNat : Nat) : Int) = q by omega] at hPS
    have hsg := ps_sig (G := G) q4 q7 p8 (by omega : -1000 ≤ a) (by omega) k (by omega : q.toNat ≤ 3000)
    have hGn : g.toNat = G := by omega
    have hSC := fun v w h => iScale_any v q.toNat (plF c g.toNat (perL c g) k) a w h (by omega)
    have hin : inM a = true := (inM_iff a).2 ⟨by omega, by omega⟩
    rw [hGn] at hSC hPS
    rw [(scN_in hsg.1 hin).1, (scN_in hsg.1 hin).2, hsg.2, show resN q.toNat (scF a (plF c G (perL c g) k)) = q.toNat by unfold resN; rw [hsg.2]; rfl] at hSC
    have hF : psF c g k a = scF a (plF c G (perL c g) k) := by unfold psF; rw [hGn]
    rw [hF]
    obtain ⟨X, hX⟩ : ∃ X, plF c G (perL c g) k = X := ⟨_, rfl⟩
    rw [hX] at hPS hSC ⊢
    obtain ⟨Y, hY⟩ : ∃ Y, scF a X = Y := ⟨_, rfl⟩
    rw [hY] at hSC ⊢
    obtain ⟨M, hM⟩ : ∃ M, q.toNat = M := ⟨_, rfl⟩
    rw [hM] at hPS hSC ⊢
    have HPS := Lib.hid hPS
    have HSC := Lib.hid hSC
    clear hO ho hp k0 k1 hb hG q4 q7 p8 p9 hPS hsg hGn hSC hin hF hX hY hM
    have b0 := (Below.refl w.heap.size w).alloc (Nat.le_refl _) (.cells #[.string c, .int .i64 g] 24)
    have u0 := PilAt.new w 24 c g
    go_enter Try.func14, Try.ntmps14
    go_wp2_with fail
    refine (HO.out _).mono ?_
    rintro e w1 ⟨rfl, n1⟩
    have b1 := below_then b0 (Nat.le_refl _) n1
    have u1 := u0.below n1 (by simp)
    clear n1 b0 u0
    obtain ⟨x0, x1, x2⟩ := id u1
    go_wp2_with fail
    clear x0 x1 x2
    refine (HPS.out _).mono ?_
    rintro e w2 ⟨vs, rfl, O2, n2⟩
    have b2 := below_then b1 (Nat.le_refl _) n2
    clear n2 b1 u1
    go_wp2_with fail
    refine (HSC.out _ _ O2.ints).mono ?_
    rintro e w9 ⟨v9, rfl, O9, n9⟩
    have HO9 := Lib.hid (O9.mono b2.size)
    have b9 := below_then b2 (Nat.le_refl _) n9
    clear O2 O9 n9 b2
    go_wp2
    go_ret2
    exact ⟨_, rfl, HO9.out, b9⟩
set_option maxHeartbeats 3200000 in
theorem sPSig_any (c : ByteArray) (g k q a : Int) (w : World) (hc : c.size ≤ 1048576) :
    Calls Try.prog 15 #[.agg #[.string c, .int .i64 g], .int .i64 k, .int .i64 q, .int .i64 a] w fun e w' => ∃ u, e = .returned (.tuple #[u, .bool (psOK c g k q a)]) ∧ OF w' w.heap.size u (psN c g k q a) (psF c g k a) ∧ Below w.heap.size w w' := by
  have hV := fun w => sPilot_any c g w hc
  obtain ⟨W, hW⟩ : ∃ W, w.alloc (.cells #[.string c, .int .i64 g] 24) = W := ⟨_, rfl⟩
  have HWS := Lib.hid (show W.heap.size = w.heap.size + 1 by rw [← hW]; simp)
  have HB0 : Hid (Below w.heap.size w W) := Lib.hid (by rw [← hW]; exact (Below.refl w.heap.size w).alloc (Nat.le_refl _) _)
  have HU0 : Hid (PilAt W w.heap.size c g) := Lib.hid (by rw [← hW]; exact PilAt.new w _ c g)
  have HO0 := Lib.hid (OF.empty0 W (psF c g k a))
  have k0 : Below W.heap.size W (W.alloc (.cells #[] 3)) := (Below.refl _ _).alloc (Nat.le_refl _) _
  have HW := Lib.hid hW
  obtain ⟨V, hVV⟩ : ∃ V, W.alloc (.cells #[] 3) = V := ⟨_, rfl⟩
  rw [hVV] at HO0 k0
  have HV' := Lib.hid hVV
  have HOQ : Hid (OF V W.heap.size (.slice (some ⟨w.heap.size + 1, 0, none⟩) 0 0) 0 (psF c g k a)) := Lib.hid (by rw [← HWS.out]; exact HO0.out)
  have HK := Lib.hid k0
  have hlt : w.heap.size < W.heap.size := by rw [HWS.out]; omega
  clear hW hVV k0 HO0
  cases hp : pilB c g with
  | false =>
    have hno : ¬ (offB c g k = true ∧ psB q a = true) := fun e => by have := ((offB_iff _ _ _).1 e.1).1; rw [hp] at this; cases this
    rw [(ps_no hno).1, (ps_no hno).2]
    rw [hp] at hV
    have HV := Lib.hid hV
    clear hno hp hV
    go_enter Try.func15, Try.ntmps15
    have u1 : PilAt V w.heap.size c g := HU0.out.below HK.out HU0.out.2.2
    have b1 : Below w.heap.size w V := below_then HB0.out (Nat.le_refl _) HK.out
    have O1 := HOQ.out
    obtain ⟨x0, x1, x2⟩ := id u1
    rw [← HV'.out, ← HW.out] at x0 x1
    go_wp2_with fail
    clear x0 x1 x2
    rw [HW.out, HV'.out]
    clear HOQ
    refine (HV.out _).mono ?_
    rintro e w2 ⟨rfl, n2⟩
    have b2 := below_then b1 (Nat.le_refl _) n2
    have O2 := O1.below n2
    have u2 := u1.below n2 u1.2.2
    clear n2 b1 O1 u1
    have HOF := Lib.hid (O2.mono (Nat.le_of_lt hlt))
    clear O2
    clear u2
    go_wp2
    go_ret2
    exact ⟨_, rfl, HOF.out, b2⟩
  | true =>
    rw [hp] at hV
    have HV := Lib.hid hV
    have hO := fun w => l5Offset_any c g k w hp
    cases ho : offB c g k with
    | false =>
      rw [ho] at hO
      have HO := Lib.hid hO
      rw [(ps_no (by rw [ho]; simp)).1, (ps_no (by rw [ho]; simp)).2]
      clear hp hV hO ho
      go_enter Try.func15, Try.ntmps15
      have u1 : PilAt V w.heap.size c g := HU0.out.below HK.out HU0.out.2.2
      have b1 : Below w.heap.size w V := below_then HB0.out (Nat.le_refl _) HK.out
      have O1 := HOQ.out
      obtain ⟨x0, x1, x2⟩ := id u1
      rw [← HV'.out, ← HW.out] at x0 x1
      go_wp2_with fail
      clear x0 x1 x2
      rw [HW.out, HV'.out]
      clear HOQ
      refine (HV.out _).mono ?_
      rintro e w2 ⟨rfl, n2⟩
      have b2 := below_then b1 (Nat.le_refl _) n2
      have O2 := O1.below n2
      have u2 := u1.below n2 u1.2.2
      clear n2 b1 O1 u1
      obtain ⟨x0, x1, x2⟩ := id u2
      go_wp2_with fail
      clear x0 x1 x2
      refine (HO.out _).mono ?_
      rintro e w3 ⟨rfl, n3⟩
      have b3 := below_then b2 (Nat.le_refl _) n3
      have O4 := O2.below n3
      clear O2
      have u3 := u2.below n3 u2.2.2
      clear n3 b2 u2
      have HOF := Lib.hid (O4.mono (Nat.le_of_lt hlt))
      clear O4
      clear u3
      go_wp2
      go_ret2
      exact ⟨_, rfl, HOF.out, b3⟩
    | true =>
      rw [ho] at hO
      have HO := Lib.hid hO
      by_cases hq : 0 ≤ q ∧ q ≤ 3000
      rotate_left
      · have HQ := Lib.hid (fun w => l1In_no q 0 3000 w hq)
        have hno : ¬ (offB c g k = true ∧ psB q a = true) := fun e => by have := (psB_iff _ _).1 e.2; omega
        rw [(ps_no hno).1, (ps_no hno).2]
        clear hp hV hO ho hq hno
        go_enter Try.func15, Try.ntmps15
        have u1 : PilAt V w.heap.size c g := HU0.out.below HK.out HU0.out.2.2
        have b1 : Below w.heap.size w V := below_then HB0.out (Nat.le_refl _) HK.out
        have O1 := HOQ.out
        obtain ⟨x0, x1, x2⟩ := id u1
        rw [← HV'.out, ← HW.out] at x0 x1
        go_wp2_with fail
        clear x0 x1 x2
        rw [HW.out, HV'.out]
        clear HOQ
        refine (HV.out _).mono ?_
        rintro e w2 ⟨rfl, n2⟩
        have b2 := below_then b1 (Nat.le_refl _) n2
        have O2 := O1.below n2
        have u2 := u1.below n2 u1.2.2
        clear n2 b1 O1 u1
        obtain ⟨x0, x1, x2⟩ := id u2
        go_wp2_with fail
        clear x0 x1 x2
        refine (HO.out _).mono ?_
        rintro e w3 ⟨rfl, n3⟩
        have b3 := below_then b2 (Nat.le_refl _) n3
        have O4 := O2.below n3
        clear O2
        have u3 := u2.below n3 u2.2.2
        clear n3 b2 u2
        obtain ⟨x0, x1, x2⟩ := id u3
        go_wp2_with fail
        clear x0 x1 x2
        refine (HQ.out _).mono ?_
        rintro e w' ⟨rfl, rfl⟩
        have HOF := Lib.hid (O4.mono (Nat.le_of_lt hlt))
        clear O4
        clear u3
        go_wp2
        go_ret2
        exact ⟨_, rfl, HOF.out, b3⟩
      · have HQ := Lib.hid (fun w => l1In_yes q 0 3000 w hq.1 hq.2)
        by_cases ha : -1000 ≤ a ∧ a ≤ 1000
        rotate_left
        · have HA := Lib.hid (fun w => l1In_no a (-1000) 1000 w ha)
          have hno : ¬ (offB c g k = true ∧ psB q a = true) := fun e => by have := (psB_iff _ _).1 e.2; omega
          rw [(ps_no hno).1, (ps_no hno).2]
          clear hp hV hO ho hq hno ha
          go_enter Try.func15, Try.ntmps15
          have u1 : PilAt V w.heap.size c g := HU0.out.below HK.out HU0.out.2.2
          have b1 : Below w.heap.size w V := below_then HB0.out (Nat.le_refl _) HK.out
          have O1 := HOQ.out
          obtain ⟨x0, x1, x2⟩ := id u1
          rw [← HV'.out, ← HW.out] at x0 x1
          go_wp2_with fail
          clear x0 x1 x2
          rw [HW.out, HV'.out]
          clear HOQ
          refine (HV.out _).mono ?_
          rintro e w2 ⟨rfl, n2⟩
          have b2 := below_then b1 (Nat.le_refl _) n2
          have O2 := O1.below n2
          have u2 := u1.below n2 u1.2.2
          clear n2 b1 O1 u1
          obtain ⟨x0, x1, x2⟩ := id u2
          go_wp2_with fail
          clear x0 x1 x2
          refine (HO.out _).mono ?_
          rintro e w3 ⟨rfl, n3⟩
          have b3 := below_then b2 (Nat.le_refl _) n3
          have O4 := O2.below n3
          clear O2
          have u3 := u2.below n3 u2.2.2
          clear n3 b2 u2
          obtain ⟨x0, x1, x2⟩ := id u3
          go_wp2_with fail
          clear x0 x1 x2
          refine (HQ.out _).mono ?_
          rintro e w' ⟨rfl, rfl⟩
          obtain ⟨x0, x1, x2⟩ := id u3
          go_wp2_with fail
          clear x0 x1 x2
          refine (HA.out _).mono ?_
          rintro e w' ⟨rfl, rfl⟩
          have HOF := Lib.hid (O4.mono (Nat.le_of_lt hlt))
          clear O4
          clear u3
          go_wp2
          go_ret2
          exact ⟨_, rfl, HOF.out, b3⟩
        · have HA := Lib.hid (fun w => l1In_yes a (-1000) 1000 w ha.1 ha.2)
          obtain ⟨q1, q2⟩ := hq
          obtain ⟨a1, a2⟩ := ha
          have hb : psB q a = true := (psB_iff _ _).2 ⟨q1, q2, a1, a2⟩
          rw [(ps_yes ho hb).1, (ps_yes ho hb).2]
          obtain ⟨-, k0, k1⟩ := (offB_iff _ _ _).1 ho
          obtain ⟨M, rfl⟩ : ∃ M : Nat, q = M := ⟨q.toNat, by omega⟩
          rw [Int.toNat_natCast]
          obtain ⟨G, hG, -, -, -, q4, -, -, q7, p8, p9⟩ := pil_nat hp
          have hGn : g.toNat = G := by omega
          have hCP := fun i w hi => l5Chip_yes c g k i w hp (by omega) (by omega) hi
          have HBD := Lib.hid (fun i => ps_bd (G := G) q4 q7 p8 a1 a2 k i)
          have HPF : Hid (∀ i, psF c g k a i = a * plF c G (perL c g) k i) := Lib.hid (fun i => by unfold psF scF; rw [hGn])
          rw [hGn] at hCP
          have HCP := Lib.hid hCP
          clear hp hV hO ho hb k0 k1 hG q4 q7 p8 p9 hGn hCP
          go_enter Try.func15, Try.ntmps15
          have u1 : PilAt V w.heap.size c g := HU0.out.below HK.out HU0.out.2.2
          have b1 : Below w.heap.size w V := below_then HB0.out (Nat.le_refl _) HK.out
          have O1 := HOQ.out
          obtain ⟨x0, x1, x2⟩ := id u1
          rw [← HV'.out, ← HW.out] at x0 x1
          go_wp2_with fail
          clear x0 x1 x2
          rw [HW.out, HV'.out]
          clear HOQ
          refine (HV.out _).mono ?_
          rintro e w2 ⟨rfl, n2⟩
          have r2 := below_then HK.out (Nat.le_refl _) n2
          have O2 := O1.below n2
          have u2 := u1.below n2 u1.2.2
          clear n2 b1 O1 u1
          obtain ⟨x0, x1, x2⟩ := id u2
          go_wp2_with fail
          clear x0 x1 x2
          refine (HO.out _).mono ?_
          rintro e w3 ⟨rfl, n3⟩
          have r3 := below_then r2 (Nat.le_refl _) n3
          have O3 := O2.below n3
          clear n3 r2 O2 u2
          go_wp2_with fail
          refine (HQ.out _).mono ?_
          rintro e w' ⟨rfl, rfl⟩
          go_wp2_with fail
          refine (HA.out _).mono ?_
          rintro e w' ⟨rfl, rfl⟩
          have HO3 := Lib.hid O3
          have HR3 := Lib.hid r3
          clear O3 r3
          go_wp2_with fail
          go_loopw [10, 11] (fun x i wr => ∃ j : Nat, j ≤ M ∧ i = .int .i64 (j : Int) ∧ OF wr W.heap.size x j (psF c g k a) ∧ Below W.heap.size W wr) (fun _ i _ => M - (intOf i).toNat)
          case atStart => exact ⟨0, by omega, rfl, HO3.out, HR3.out⟩
          case round =>
            obtain ⟨j, hj, rfl, rO, rb⟩ := hrel
            by_cases hlm : j < M
            · have i1 : (j : Int) < (M : Int) := by omega
              have uj := HU0.out.below rb HU0.out.2.2
              have hpf := HPF.out j
              have hbd := HBD.out j
              have hcp := fun w => HCP.out j w (by omega)
              obtain ⟨C, hC⟩ : ∃ C, plF c G (perL c g) k j = C := ⟨_, rfl⟩
              rw [hC] at hpf hbd hcp
              obtain ⟨Y, hY⟩ : ∃ Y, a * C = Y := ⟨_, rfl⟩
              rw [hY] at hpf hbd
              obtain ⟨y1, y2⟩ := hbd
              have HCC := Lib.hid hcp
              have HPP := Lib.hid hpf
              have v1 : a * C = Y := hY
              clear hC hcp hpf
              obtain ⟨x0, x1, x2⟩ := id uj
              go_wp2_with fail
              clear x0 x1 x2
              refine (HCC.out _).mono ?_
              rintro e w4 ⟨rfl, n4⟩
              have r4 := below_then rb (Nat.le_refl _) n4
              have O4 := rO.below n4
              clear n4 rb rO uj
              go_wp2_with (at_builtin; refine wpList_append_int rfl (.tmp 38) (.tmp 45) rfl W.heap.size _ j (psF c g k a) rfl (O4.alloc _) w4.heap.size 1 Y rfl (by simp) (by omega) (by have := r4.size; simp; omega) ?_; intro v' w5 O5 g5)
              have O6 := Lib.hid (show OF w5 W.heap.size v' (j + 1) (psF c g k a) from O5.congr (fun i hi => by
                by_cases e : i < j
                · rw [if_pos e]
                · rw [if_neg e, ← HPP.out]; congr 1; omega))
              have r5 : Below W.heap.size W w5 := (r4.alloc r4.size _).grown g5 (by have := r4.size; simp; omega) (fun q hq => (O4.lt q hq).1)
              clear O5 O4 g5 r4 hY v1
              go_wp2
              go_roundw
              case rel => exact ⟨j + 1, by omega, by go_num, O6.out, r5⟩
              case measure => simp [intOf]; omega
            · obtain rfl : j = M := by omega
              have HOF := Lib.hid (rO.mono (Nat.le_of_lt hlt))
              have HBF := Lib.hid (below_then HB0.out (Nat.le_refl _) rb)
              clear rO rb
              go_wp2
              go_ret2
              exact ⟨_, rfl, HOF.out, HBF.out⟩
end Go.Proofs.Ytmeooebklohdfaa
