/- The walk of the law FnTreeCode. -/
import Derived.Test.YtgfehabpoebaoaaDrawTC
import Derived.Test.YtgfehabpoebaoaaTreeMath
namespace Go.Proofs.Ytgfehabpoebaoaa
open Go.RowKit
set_option linter.unusedVariables false
set_option maxHeartbeats 1600000 in
set_option maxRecDepth 100000 in
theorem fnTreeCode_walk (a0 : Option Addr) (len0 cap0 : Nat) (z0 : List Int) (w : World) (w0 : IsBytes w a0 len0 cap0 z0) :
    Calls Try.prog 5 #[.slice a0 len0 cap0] w fun e w' => e = .returned (.bool true) ∧ Below w.heap.size w w' := by
  by_cases hl0 : 1048576 < len0
  · go_enter Try.func5, Try.ntmps5
    go_wp2
    go_ret
    exact ⟨rfl, Below.refl _ _⟩
  go_enter Try.func5, Try.ntmps5
  go_wp2_with fail
  refine (drawTC_any a0 len0 cap0 z0 _ w0).mono ?_
  rintro e W1 ⟨p, rfl, hp, bc⟩
  clear w0
  have hi := fun w => iTree_any p w (by omega)
  have hs := fun w => sTree_any p w (by omega)
  cases hv : pathB p with
  | false =>
    rw [show treeAns p = noS by unfold treeAns; rw [hv]; rfl] at hi hs
    have HI := Lib.hid hi
    have HS := Lib.hid hs
    clear hi hs
    clear hv
    go_wp2_with fail
    refine (HI.out _).mono ?_
    rintro e w101 ⟨rfl, hb102⟩
    have b103 := below_then bc (Nat.le_refl _) hb102
    clear bc
    have bc := b103
    clear b103 hb102
    go_wp2_with fail
    refine (HS.out _).mono ?_
    rintro e w104 ⟨rfl, hb105⟩
    have b106 := below_then bc (Nat.le_refl _) hb105
    clear bc
    have bc := b106
    clear b106 hb105
    go_wp2
    go_ret
    exact ⟨rfl, bc⟩
  | true =>
    rw [show treeAns p = (treeS p p.size, true) by unfold treeAns; rw [hv]; rfl] at hi hs
    obtain ⟨h1, h2⟩ := (pathB_iff p).1 hv
    obtain ⟨ht, hl⟩ := tree_wal hv
    have h64 := tw_6 p.size h2
    have hz := treeS_size p p.size
    have p2 := int_tw p.size
    have hx := fun w => iIdx_any (treeS p p.size) w (by rw [treeS_size]; omega)
    rw [show idxAns (treeS p p.size) = (((vlN p p.size : Nat) : Int), true) by rw [ht]; exact idx_wal h2 hl] at hx
    have hh := fun (e : Nat) (he : e ≤ p.size) => tree_half hv he
    have hb := fun k (hk : k < p.size) => bit_of h1 hk
    have hq := fun k (hk : k < p.size) => okB_zb p h1 k hk
    have hvl := fun k (hk : k ≤ p.size) => vlN_lt h1 k hk
    have hV0 : vlN p 0 = 0 := rfl
    have hVS : ∀ k, vlN p (k + 1) = vlN p k + (zb p k - 48) * tw k := fun _ => rfl
    have hg := fun (e : Nat) (he : e ≤ p.size) w => iTree_any (p.extract 0 e) w (by have := (hh e he).2.1; omega)
    have hg2 : ∀ e, e ≤ p.size → treeAns (p.extract 0 e) = (treeS (p.extract 0 e) e, true) := fun e he => by unfold treeAns; rw [if_pos (hh e he).1, (hh e he).2.1]
    obtain ⟨A, hA⟩ : ∃ A, treeS p p.size = A := ⟨_, rfl⟩
    rw [hA] at hi hs hz hx
    simp only [hA] at hh
    obtain ⟨V, hV⟩ : ∃ V, vlN p = V := ⟨_, rfl⟩
    rw [hV] at hx hl hV0
    simp only [hV] at hVS hvl
    obtain ⟨T, hT⟩ : ∃ T, tw p.size = T := ⟨_, rfl⟩
    rw [hT] at hz h64 p2 hl
    have HTT := Lib.hid hT
    have HZ := Lib.hid hz
    have P2 := Lib.hid p2
    have HV0 := Lib.hid hV0
    have HVS := Lib.hid hVS
    have HB := Lib.hid hb
    have HQ := Lib.hid hq
    have HVL := Lib.hid hvl
    have HG := Lib.hid hg
    have HG2 := Lib.hid hg2
    have HH := Lib.hid hh
    have HOK := Lib.hid h1
    clear hT hz p2 hV0 hVS hb hq hvl hg hg2 hh hA hV ht hv h1
    have HI := Lib.hid hi
    have HS := Lib.hid hs
    have HX := Lib.hid hx
    clear hi hs hx
    go_wp2_with fail
    refine (HI.out _).mono ?_
    rintro e w207 ⟨rfl, hb208⟩
    have b209 := below_then bc (Nat.le_refl _) hb208
    clear bc
    have bc := b209
    clear b209 hb208
    go_wp2_with fail
    refine (HS.out _).mono ?_
    rintro e w210 ⟨rfl, hb211⟩
    have b212 := below_then bc (Nat.le_refl _) hb211
    clear bc
    have bc := b212
    clear b212 hb211
    go_wp2_with fail
    refine (HX.out _).mono ?_
    rintro e w213 ⟨rfl, hb214⟩
    have b215 := below_then bc (Nat.le_refl _) hb214
    clear bc
    have bc := b215
    clear b215 hb214
    clear HI HS HX
    go_wp2_with fail
    go_loopw [10, 11] (fun v i wr => ∃ k : Nat, k ≤ p.size ∧ v = .int .i64 (V k : Nat) ∧ i = .int .i64 (k : Int) ∧ wr = w213) (fun _ i _ => p.size - (intOf i).toNat)
    case atStart => exact ⟨0, by omega, by rw [HV0.out]; rfl, rfl, rfl⟩
    case round =>
      obtain ⟨k, hk, rfl, rfl, rfl⟩ := hrel
      by_cases hlt : k < p.size
      · skip
        have i0 : (0 : Int) ≤ (k : Int) := by omega
        have i1 : (k : Int) < (p.size : Int) := by omega
        have q0 := HQ.out k hlt
        have q1 := HVS.out k
        have q2 := HVL.out (k + 1) (by omega)
        have q3 := zb_at p k hlt
        have q4 : tw (k + 1) ≤ 64 := tw_6 _ (by omega)
        obtain ⟨B, hB⟩ : ∃ B, zb p k - 48 = B := ⟨_, rfl⟩
        rw [hB] at q1
        obtain ⟨Y, hY⟩ : ∃ Y, B * tw k = Y := ⟨_, rfl⟩
        have a3 : (B : Int) * 2 ^ k = (Y : Int) := by rw [int_tw, ← hY, Int.natCast_mul]
        rw [hY] at q1
        obtain ⟨X, hX⟩ : ∃ X, V (k + 1) = X := ⟨_, rfl⟩
        rw [hX] at q1 q2
        obtain ⟨U, hU⟩ : ∃ X, V k = X := ⟨_, rfl⟩
        rw [hU] at q1 ⊢
        have HXX := Lib.hid hX
        have a0 : (48 : Int) ≤ (p[k].toNat : Int) := by omega
        have a1 : ((p[k].toNat : Nat) : Int) - 48 = (B : Int) := by omega
        have a4 : (U : Int) + (Y : Int) = (X : Int) := by omega
        have b1 : B ≤ 1 := by omega
        have b2 : Y ≤ 64 := by omega
        have b3 : X ≤ 64 := by omega
        have b4 : U ≤ 64 := by omega
        have i2 : k < p.size := hlt
        clear q0 q1 q2 q3 q4 hB hY hX hU
        go_wp2
        go_roundw
        case rel => exact ⟨k + 1, by omega, by rw [HXX.out], by go_num, by trivial⟩
        case measure => simp [intOf]; omega
      · skip
        obtain rfl : k = p.size := by omega
        clear hlt hk
        have zz := HZ.out
        have pp := P2.out
        obtain ⟨U, hU⟩ : ∃ X, V p.size = X := ⟨_, rfl⟩
        rw [hU] at hl ⊢
        clear hU
        by_cases c0 : p.size = 0
        · skip
          have e0 : p = ⟨#[]⟩ := ba_ext (by rw [c0]; rfl) (fun i hi => by omega)
          have e1 : (p.toList == (⟨#[]⟩ : ByteArray).toList) = true := by rw [e0]; exact beq_self_eq_true _
          have e2 : p.toList = [] := by rw [e0, ByteArray.toList_eq]
          have g := HG.out 0 (by omega)
          rw [HG2.out 0 (by omega), show p.extract 0 0 = ByteArray.empty by rw [e0]; rfl] at g
          have HGG := Lib.hid g
          have z0 : (p.size : Int) = 0 := by omega
          have t1 : T = 1 := by rw [← HTT.out, c0]; rfl
          have t2 : (T : Int) = 1 := by omega
          have t3 : (A.size : Int) = 1 := by omega
          clear e0 g c0
          go_wp2_with fail
          refine (HGG.out _).mono ?_
          rintro e x1 ⟨rfl, hb1⟩
          have r1 := below_then bc (Nat.le_refl _) hb1
          clear bc hb1
          go_wp2
          go_ret
          exact ⟨rfl, r1⟩
        · skip
          obtain ⟨E, hE⟩ : ∃ E, p.size = E + 1 := ⟨p.size - 1, by omega⟩
          have e1 := str_ne (y := p) (z := ⟨#[]⟩) (fun e => by rw [e] at c0; exact c0 rfl)
          have e2 : ¬ p.toList = [] := fun e => by rw [e, show (⟨#[]⟩ : ByteArray).toList = [] by rw [ByteArray.toList_eq]] at e1; cases e1
          have g := HG.out E (by omega)
          rw [HG2.out E (by omega)] at g
          obtain ⟨-, -, k3⟩ := HH.out E (by omega)
          have k3 := k3 hE
          have k4 := treeS_size (p.extract 0 E) E
          have k5 : tw E ≤ T := by rw [← HTT.out, hE, tw_succ]; omega
          obtain ⟨D, hD⟩ : ∃ D, treeS (p.extract 0 E) E = D := ⟨_, rfl⟩
          rw [hD] at g k3 k4
          rw [← k4] at k3 k5
          have HGG := Lib.hid g
          have m1 : (p.size : Int) - 1 = (E : Int) := by omega
          have m2 : ¬ ((E : Int) < 0) := by omega
          have m3 : max (E : Int) 0 = (E : Int) := by omega
          have m4 : (E : Int) ≤ (p.size : Int) := by omega
          have m5 : (0 : Int) ≤ (E : Int) := by omega
          have m6 : (D.size : Int) ≤ (A.size : Int) := by omega
          have m7 : D.size ≤ A.size := by omega
          have m8 : E ≤ p.size := by omega
          have m9 : (0 : Int) ≤ (D.size : Int) := by omega
          clear g hE hD k4 c0
          go_wp2_with fail
          refine (HGG.out _).mono ?_
          rintro e x1 ⟨rfl, hb1⟩
          have r1 := below_then bc (Nat.le_refl _) hb1
          clear bc hb1
          go_wp2
          go_ret
          exact ⟨rfl, r1⟩
end Go.Proofs.Ytgfehabpoebaoaa
