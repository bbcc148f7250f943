/- Collisions of two users: HopCollisions of both sides. -/
import Derived.Test.YtbllmgdnhjdphacHop3
namespace Go.Proofs.Ytbllmgdnhjdphac
open Go.RowKit
set_option linter.unusedVariables false
set_option maxRecDepth 100000
/-- At how many of the first k places two lists agree. -/
def mtC (f g : Nat → Int) : Nat → Nat
  | 0 => 0
  | k + 1 => mtC f g k + (if f k = g k then 1 else 0)
theorem mtC_le (f g : Nat → Int) : ∀ k, mtC f g k ≤ k
  | 0 => Nat.le_refl _
  | k + 1 => by have := mtC_le f g k; simp only [mtC]; split <;> omega
theorem mtC_yes {f g : Nat → Int} {k : Nat} (h : f k = g k) : mtC f g (k + 1) = mtC f g k + 1 := by simp only [mtC]; rw [if_pos h]
theorem mtC_no {f g : Nat → Int} {k : Nat} (h : ¬ f k = g k) : mtC f g (k + 1) = mtC f g k := by simp only [mtC]; rw [if_neg h]; rfl
theorem mtC_congr {f g f' g' : Nat → Int} : ∀ {k : Nat}, (∀ j, j < k → f j = f' j) → (∀ j, j < k → g j = g' j) → mtC f g k = mtC f' g' k
  | 0, _, _ => rfl
  | k + 1, h1, h2 => by simp only [mtC]; rw [mtC_congr (fun j hj => h1 j (by omega)) (fun j hj => h2 j (by omega)), h1 k (by omega), h2 k (by omega)]
theorem mtC_comm {f g : Nat → Int} : ∀ k, mtC f g k = mtC g f k
  | 0 => rfl
  | k + 1 => by
    simp only [mtC]; rw [mtC_comm k]
    by_cases e : f k = g k
    · rw [if_pos e, if_pos e.symm]
    · rw [if_neg e, if_neg (fun h => e h.symm)]
def pairHB (n m : Nat) (f g : Nat → Int) : Bool := someB n f && (someB m g && decide (n = m))
theorem pairHB_iff (n m : Nat) (f g : Nat → Int) : pairHB n m f g = true ↔ someB n f = true ∧ someB m g = true ∧ n = m := by unfold pairHB; simp only [Bool.and_eq_true, decide_eq_true_eq]
/-- The collisions for a shift, -1 where there are none. -/
def colV (n m : Nat) (f g : Nat → Int) (k : Int) : Int := if pairHB n m f g then (mtC f (shF n g k) n : Nat) else -1
theorem coll_any (u v : Value) (n m : Nat) (f g : Nat → Int) (w : World) (hu : IntsR w u n f) (hv : IntsR w v m g) (hn : n ≤ 300) (hm : n ≤ m) :
    Calls Try.prog 34 #[u, v] w fun e w' => e = .returned (.int .i64 (mtC f g n : Nat)) ∧ w = w' := by
  obtain ⟨a, cap, rfl, hc⟩ := hu
  obtain ⟨b, cap', rfl, hd⟩ := hv
  have HC := Lib.hid hc
  have HD := Lib.hid hd
  have HY := Lib.hid (fun k (h : f k = g k) => mtC_yes h)
  have HN := Lib.hid (fun k (h : ¬ f k = g k) => mtC_no h)
  have HL := Lib.hid (fun k => mtC_le f g k)
  clear hc hd
  go_enter Try.func34, Try.ntmps34
  go_wp2
  go_loop [5, 10] (fun s i => ∃ k : Nat, k ≤ n ∧ i = .int .i64 k ∧ s = .int .i64 (mtC f g k : Nat)) (fun _ i => n - (intOf i).toNat)
  case atStart => exact ⟨0, by omega, rfl, rfl⟩
  case round =>
    obtain ⟨k, hk, rfl, rfl⟩ := hrel
    by_cases hlt : k < n
    · obtain ⟨x, rfl, hx, hcc⟩ := HC.out k hlt
      obtain ⟨y, rfl, hy, hdd⟩ := HD.out k (by omega)
      have i0 : (0 : Int) ≤ (k : Int) := by omega
      have i1 : (k : Int) < (n : Int) := by omega
      have i2 : (k : Int) < (m : Int) := by omega
      have hl := HL.out k
      by_cases he : f k = g k
      · have h1 := HY.out k he
        obtain ⟨M, hM⟩ : ∃ M, mtC f g k = M := ⟨_, rfl⟩
        rw [hM] at hl h1 ⊢
        obtain ⟨X, hX⟩ : ∃ X, g k = X := ⟨_, rfl⟩
        rw [he, hX] at hcc
        rw [hX] at hdd
        have HE := Lib.hid h1
        clear hx hy h1 hM he hX
        go_wp2
        go_round
        case rel => exact ⟨k + 1, by omega, by go_num, by rw [HE.out]; go_num⟩
        case measure => simp [intOf]; omega
      · have h1 := HN.out k he
        obtain ⟨M, hM⟩ : ∃ M, mtC f g k = M := ⟨_, rfl⟩
        rw [hM] at hl h1 ⊢
        obtain ⟨X, hX⟩ : ∃ X, g k = X := ⟨_, rfl⟩
        obtain ⟨Y, hY⟩ : ∃ Y, f k = Y := ⟨_, rfl⟩
        rw [hX, hY] at he
        rw [hY] at hcc
        rw [hX] at hdd
        have HE := Lib.hid h1
        have e1 : ¬ X = Y := fun h => he h.symm
        have e2 : (X == Y) = false := by simp; exact e1
        clear hx hy h1 hM hX hY he
        go_wp2
        go_round
        case rel => exact ⟨k + 1, by omega, by go_num, by rw [HE.out]⟩
        case measure => simp [intOf]; omega
    · obtain rfl : k = n := by omega
      go_wp2
      go_ret
      exact ⟨rfl, rfl⟩
theorem iPairH_any (u v : Value) (n m : Nat) (f g : Nat → Int) (w : World) (hu : IntsR w u n f) (hv : IntsR w v m g) (hn : n ≤ 1048576) (hm : m ≤ 1048576) :
    Calls Try.prog 33 #[u, v] w fun e w' => e = .returned (.bool (pairHB n m f g)) ∧ w = w' := by
  have h1 := fun w h => iSome_any u n f w h hn
  have h2 := fun w h => iSome_any v m g w h hm
  have HU := Lib.hid hu
  have HV := Lib.hid hv
  have hB : pairHB n m f g = (someB n f && (someB m g && decide (n = m))) := rfl
  obtain ⟨a, cap, rfl, -⟩ := hu
  obtain ⟨b, cap', rfl, -⟩ := hv
  cases hf : someB n f with
  | false =>
    rw [hf] at h1 hB
    have HE := Lib.hid hB.symm
    have H1 := Lib.hid h1
    clear h1 h2 hB hf
    go_enter Try.func33, Try.ntmps33
    go_wp2_with fail
    refine (H1.out _ HU.out).mono ?_
    rintro e w' ⟨rfl, rfl⟩
    go_wp2
    go_ret
    exact ⟨ret_bool HE.out, rfl⟩
  | true =>
    rw [hf] at h1 hB
    have H1 := Lib.hid h1
    cases hg : someB m g with
    | false =>
      rw [hg] at h2 hB
      have HE := Lib.hid hB.symm
      have H2 := Lib.hid h2
      clear h1 h2 hB hf hg
      go_enter Try.func33, Try.ntmps33
      go_wp2_with fail
      refine (H1.out _ HU.out).mono ?_
      rintro e w' ⟨rfl, rfl⟩
      go_wp2_with fail
      refine (H2.out _ HV.out).mono ?_
      rintro e w' ⟨rfl, rfl⟩
      go_wp2
      go_ret
      exact ⟨ret_bool HE.out, rfl⟩
    | true =>
      rw [hg] at h2 hB
      have H2 := Lib.hid h2
      have HE : Hid (decide ((n : Int) = (m : Int)) = pairHB n m f g) := Lib.hid (by
        rw [hB, Bool.true_and, Bool.true_and]; exact decide_eq_decide.2 (by omega))
      have HE2 : Hid (((n : Int) == (m : Int)) = pairHB n m f g) := Lib.hid (by rw [← HE.out]; rfl)
      clear h1 h2 hB hf hg
      go_enter Try.func33, Try.ntmps33
      go_wp2_with fail
      refine (H1.out _ HU.out).mono ?_
      rintro e w' ⟨rfl, rfl⟩
      go_wp2_with fail
      refine (H2.out _ HV.out).mono ?_
      rintro e w' ⟨rfl, rfl⟩
      go_wp2
      go_ret
      exact ⟨ret_bool HE2.out, rfl⟩
theorem iColl_any (u v : Value) (n m : Nat) (f g : Nat → Int) (k : Int) (w : World) (hu : IntsR w u n f) (hv : IntsC w v m g) (hn : n ≤ 1048576) (hm : m ≤ 1048576) :
    Calls Try.prog 11 #[u, v, .int .i64 k] w fun e w' => e = .returned (.int .i64 (colV n m f g k)) ∧ Below w.heap.size w w' := by
  have hp := fun w h1 h2 => iPairH_any u v n m f g w h1 h2 hn hm
  have HU := Lib.hid hu
  have HV := Lib.hid hv.ints
  unfold colV
  cases hB : pairHB n m f g with
  | false =>
    rw [hB] at hp
    have HP := Lib.hid hp
    clear hp hB hu hv
    go_enter Try.func11, Try.ntmps11
    go_wp2_with fail
    refine (HP.out _ HU.out HV.out).mono ?_
    rintro e w' ⟨rfl, rfl⟩
    go_wp2
    go_ret
    exact ⟨rfl, Below.refl _ _⟩
  | true =>
    rw [hB] at hp
    obtain ⟨q1, q2, rfl⟩ := (pairHB_iff n m f g).1 hB
    obtain ⟨b1, b2, -⟩ := (someB_iff n g).1 q2
    have HP := Lib.hid hp
    have HL := Lib.hid (later_any v n g k w hv b1 b2)
    have HC := Lib.hid (fun x w h1 h2 => coll_any u x n n f (shF n g k) w h1 h2 b2 (Nat.le_refl _))
    clear hp hB hu hv q1 q2
    simp only [if_true]
    go_enter Try.func11, Try.ntmps11
    go_wp2_with fail
    refine (HP.out _ HU.out HV.out).mono ?_
    rintro e w' ⟨rfl, rfl⟩
    go_wp2_with fail
    refine HL.out.mono ?_
    rintro e w1 ⟨x, rfl, O1, b1⟩
    have U1 := HU.out.below b1
    go_wp2_with fail
    refine (HC.out _ _ U1 O1.ints).mono ?_
    rintro e w' ⟨rfl, rfl⟩
    go_wp2
    go_ret
    exact ⟨rfl, b1⟩
theorem sMeet_any (u v : Value) (n : Nat) (f g : Nat → Int) (k : Int) (w : World) (hu : IntsR w u n f) (hv : IntsR w v n g) (h0 : 0 < n) (hn : n ≤ 300) :
    Calls Try.prog 37 #[u, v, .int .i64 k] w fun e w' => e = .returned (.int .i64 (mtC f (shF n g k) n : Nat)) ∧ Below w.heap.size w w' := by
  obtain ⟨a, cap, rfl, hc⟩ := hu
  obtain ⟨b, cap', rfl, hd⟩ := hv
  have HC := Lib.hid hc
  have HD := Lib.hid hd
  have HM := Lib.hid (fun w => l2Mod_hop k n w (by omega) (by omega))
  have hK : modN k n < n := modN_lt k n (by omega)
  have HS := Lib.hid (fun i => show shF n g k i = g ((i + modN k n) % n) from rfl)
  obtain ⟨K, hk⟩ : ∃ K, modN k n = K := ⟨_, rfl⟩
  rw [hk] at hK HM HS
  obtain ⟨q, hq⟩ : ∃ q, shF n g k = q := ⟨_, rfl⟩
  rw [hq] at HS ⊢
  have HY := Lib.hid (fun k (h : f k = q k) => mtC_yes h)
  have HN := Lib.hid (fun k (h : ¬ f k = q k) => mtC_no h)
  have HL := Lib.hid (fun k => mtC_le f q k)
  clear hc hd hk hq
  go_enter Try.func37, Try.ntmps37
  go_wp2_with fail
  refine (HM.out _).mono ?_
  rintro e w' ⟨rfl, rfl⟩
  go_wp2
  go_loopw [7, 8] (fun s i wr => ∃ k m : Nat, k ≤ n ∧ i = .int .i64 k ∧ s = .int .i64 (mtC f q k : Nat) ∧ wr = w.drewN m) (fun _ i _ => n - (intOf i).toNat)
  case atStart => exact ⟨0, 0, by omega, rfl, rfl, rfl⟩
  case round =>
    obtain ⟨i, m, hi, rfl, rfl, rfl⟩ := hrel
    by_cases hlt : i < n
    · obtain ⟨J, hJ⟩ : ∃ J, (i + K) % n = J := ⟨_, rfl⟩
      have hJn : J < n := by rw [← hJ]; exact Nat.mod_lt _ h0
      obtain ⟨x, rfl, hx, hcc⟩ := HC.out i hlt
      obtain ⟨y, rfl, hy, hdd⟩ := HD.out J hJn
      have c1 : (w.drewN m).cell? (x.add i) = some (.int .i64 (f i)) := hcc
      have c2 : (w.drewN m).cell? (y.add J) = some (.int .i64 (g J)) := hdd
      have hs := HS.out i
      rw [hJ] at hs
      have t1 : ((i : Int) + (K : Int)).tmod (n : Int) = (J : Int) := by rw [← Int.natCast_add, hop_mod, hJ]
      have i0 : (0 : Int) ≤ (i : Int) := by omega
      have i1 : (i : Int) < (n : Int) := by omega
      have j0 : (0 : Int) ≤ (J : Int) := by omega
      have j1 : (J : Int) < (n : Int) := by omega
      have l0 : ¬ ((n : Int) = 0) := by omega
      have l1 : ((n : Int) == 0) = false := by simp; omega
      have u1 : IntKind.i64.wrap ((i : Int) + (K : Int)) = (i : Int) + (K : Int) := IntWalk.i64_in _ (by omega)
      have hl := HL.out i
      obtain ⟨M, hM⟩ : ∃ M, mtC f q i = M := ⟨_, rfl⟩
      rw [hM] at hl ⊢
      obtain ⟨W, hW⟩ : ∃ W, w.drewN m = W := ⟨_, rfl⟩
      rw [hW] at c1 c2 ⊢
      have HW := Lib.hid hW
      by_cases he : f i = q i
      · have HE := Lib.hid ((HY.out i he).trans (by rw [hM]))
        rw [hs] at he
        obtain ⟨X, hX⟩ : ∃ X, g J = X := ⟨_, rfl⟩
        rw [hX] at c2 he
        rw [he] at c1
        clear hx hy hM he hX hW hs hcc hdd hJ
        go_wp2_with fail
        go_quiet (fail)
        go_wp2
        go_roundw
        case rel => exact ⟨i + 1, m + nq, by omega, by go_num, by rw [HE.out]; go_num, by rw [← HW.out, World.drewN_drewN]⟩
        case measure => simp [intOf]; omega
      · have HE := Lib.hid ((HN.out i he).trans hM)
        rw [hs] at he
        obtain ⟨X, hX⟩ : ∃ X, g J = X := ⟨_, rfl⟩
        obtain ⟨Y, hY⟩ : ∃ Y, f i = Y := ⟨_, rfl⟩
        rw [hX] at c2 he
        rw [hY] at c1 he
        have e2 : (Y == X) = false := by simp; exact he
        clear hx hy hM hX hY hW hs hcc hdd hJ
        go_wp2_with fail
        go_quiet (fail)
        go_wp2
        go_roundw
        case rel => exact ⟨i + 1, m + nq, by omega, by go_num, by rw [HE.out], by rw [← HW.out, World.drewN_drewN]⟩
        case measure => simp [intOf]; omega
    · obtain rfl : i = n := by omega
      go_wp2
      go_ret
      exact ⟨rfl, below_drewN (Below.refl _ _) _⟩
theorem sColl_any (u v : Value) (n m : Nat) (f g : Nat → Int) (k : Int) (w : World) (hu : IntsR w u n f) (hv : IntsR w v m g) (hn : n ≤ 1048576) (hm : m ≤ 1048576) :
    Calls Try.prog 36 #[u, v, .int .i64 k] w fun e w' => e = .returned (.int .i64 (colV n m f g k)) ∧ Below w.heap.size w w' := by
  have h1 := fun w h => sHops16_any u n f w h hn
  have h2 := fun w h => sHops16_any v m g w h hm
  have HU := Lib.hid hu
  have HV := Lib.hid hv
  have hno : pairHB n m f g = false → colV n m f g k = -1 := fun h => by unfold colV; rw [h]; rfl
  have hB : pairHB n m f g = ((decide (0 < n) && hopB n f 16) && ((decide (0 < m) && hopB m g 16) && decide (n = m))) := rfl
  obtain ⟨a, cap, rfl, -⟩ := hu
  obtain ⟨b, cap', rfl, -⟩ := hv
  cases hf : hopB n f 16 with
  | false =>
    rw [hf, Bool.and_false, Bool.false_and] at hB
    rw [hno hB]
    rw [hf] at h1
    have H1 := Lib.hid h1
    clear h1 h2 hB hf hno
    go_enter Try.func36, Try.ntmps36
    go_wp2_with fail
    refine (H1.out _ HU.out).mono ?_
    rintro e w' ⟨rfl, rfl⟩
    go_wp2
    go_ret
    exact ⟨rfl, Below.refl _ _⟩
  | true =>
    rw [hf] at h1
    have H1 := Lib.hid h1
    cases hg : hopB m g 16 with
    | false =>
      rw [hg, Bool.and_false, Bool.false_and, Bool.and_false] at hB
      rw [hno hB]
      rw [hg] at h2
      have H2 := Lib.hid h2
      clear h1 h2 hB hf hg hno
      go_enter Try.func36, Try.ntmps36
      go_wp2_with fail
      refine (H1.out _ HU.out).mono ?_
      rintro e w' ⟨rfl, rfl⟩
      go_wp2_with fail
      refine (H2.out _ HV.out).mono ?_
      rintro e w' ⟨rfl, rfl⟩
      go_wp2
      go_ret
      exact ⟨rfl, Below.refl _ _⟩
    | true =>
      rw [hg] at h2
      have H2 := Lib.hid h2
      rw [hf, hg] at hB
      by_cases hnm : n = m
      · subst hnm
        by_cases h0 : 0 < n
        · rw [decide_eq_true h0] at hB
          have hC : colV n n f g k = (mtC f (shF n g k) n : Nat) := by unfold colV; rw [hB]; simp
          rw [hC]
          obtain ⟨-, n3, -⟩ := (hopB_iff n f 16).1 hf
          have HM := Lib.hid (fun w h1 h2 => sMeet_any (.slice a n cap) (.slice b n cap') n f g k w h1 h2 h0 n3)
          have l0 : ¬ ((n : Int) = 0) := by omega
          have l1 : ((n : Int) == 0) = false := by simp; omega
          clear h1 h2 hB hf hg hno hC
          go_enter Try.func36, Try.ntmps36
          go_wp2_with fail
          refine (H1.out _ HU.out).mono ?_
          rintro e w' ⟨rfl, rfl⟩
          go_wp2_with fail
          refine (H2.out _ HV.out).mono ?_
          rintro e w' ⟨rfl, rfl⟩
          go_wp2_with fail
          refine (HM.out _ HU.out HV.out).mono ?_
          rintro e w' ⟨rfl, hb⟩
          go_wp2
          go_ret
          exact ⟨rfl, hb⟩
        · rw [decide_eq_false h0] at hB
          rw [hno hB]
          obtain rfl : n = 0 := by omega
          clear h1 h2 hB hf hg hno
          go_enter Try.func36, Try.ntmps36
          go_wp2_with fail
          refine (H1.out _ HU.out).mono ?_
          rintro e w' ⟨rfl, rfl⟩
          go_wp2_with fail
          refine (H2.out _ HV.out).mono ?_
          rintro e w' ⟨rfl, rfl⟩
          go_wp2
          go_ret
          exact ⟨rfl, Below.refl _ _⟩
      · rw [decide_eq_false hnm, Bool.and_false, Bool.and_false] at hB
        rw [hno hB]
        have l0 : ¬ ((n : Int) = (m : Int)) := by omega
        have l1 : ((n : Int) == (m : Int)) = false := by simp; omega
        have l2 : ((n : Int) != (m : Int)) = true := by simp; omega
        clear h1 h2 hB hf hg hno
        go_enter Try.func36, Try.ntmps36
        go_wp2_with fail
        refine (H1.out _ HU.out).mono ?_
        rintro e w' ⟨rfl, rfl⟩
        go_wp2_with fail
        refine (H2.out _ HV.out).mono ?_
        rintro e w' ⟨rfl, rfl⟩
        go_wp2
        go_ret
        exact ⟨rfl, Below.refl _ _⟩
theorem iColl_w (u : Value) (n : Nat) (f : Nat → Int) (v : Value) (m : Nat) (g : Nat → Int) (k : Int) (w : World) (hu : IntsC w u n f) (hn : n ≤ 1048576) (hv : IntsC w v m g) (hm : m ≤ 1048576) :
    Calls Try.prog 11 #[u, v, .int .i64 k] w fun e w' => e = .returned (.int .i64 (colV n m f g k)) ∧ Below w.heap.size w w' := iColl_any u v n m f g k w hu.ints hv hn hm
theorem sColl_w (u : Value) (n : Nat) (f : Nat → Int) (v : Value) (m : Nat) (g : Nat → Int) (k : Int) (w : World) (hu : IntsR w u n f) (hn : n ≤ 1048576) (hv : IntsR w v m g) (hm : m ≤ 1048576) :
    Calls Try.prog 36 #[u, v, .int .i64 k] w fun e w' => e = .returned (.int .i64 (colV n m f g k)) ∧ Below w.heap.size w w' := sColl_any u v n m f g k w hu hv hn hm
end Go.Proofs.Ytbllmgdnhjdphac
