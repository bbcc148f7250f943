/- PowerStep of both sides. -/
import Derived.Test.YtjnipbopimpggabCel4
import Derived.Test.YtjnipbopimpggabCel5
import Derived.Test.YtjnipbopimpggabCopied
namespace Go.Proofs.Ytjnipbopimpggab
open Go.RowKit
set_option linter.unusedVariables false
set_option maxRecDepth 100000
/-- A step from one number towards another one. -/
def stepI (x y : Int) : Int := if x < y then -1 else if y < x then 1 else 0
theorem stepI_bd (x y : Int) : -1 ≤ stepI x y ∧ stepI x y ≤ 1 := by unfold stepI; (repeat' split) <;> omega
theorem isNaN_any (x : Int) (w : World) : Calls Try.prog 54 #[.int .i64 x] w fun e w' => e = .returned (.bool false) ∧ w = w' := by
  go_enter Try.func54, Try.ntmps54
  go_wp2
  go_ret
  exact ⟨ret_bool (by simp), rfl⟩
theorem compare_any (x y : Int) (w : World) : Calls Try.prog 30 #[.int .i64 x, .int .i64 y] w fun e w' => e = .returned (.int .i64 (stepI x y)) ∧ w = w' := by
  have HN := Lib.hid (fun x w => isNaN_any x w)
  by_cases h1 : x < y
  · have HS := Lib.hid (show -1 = stepI x y by unfold stepI; rw [if_pos h1])
    have h2 : ¬ y < x := by omega
    go_enter Try.func30, Try.ntmps30
    go_wp2_with fail
    refine (HN.out _ _).mono ?_
    rintro e w' ⟨rfl, rfl⟩
    go_wp2_with fail
    refine (HN.out _ _).mono ?_
    rintro e w' ⟨rfl, rfl⟩
    go_wp2
    go_ret
    exact ⟨ret_int HS.out, rfl⟩
  · by_cases h2 : y < x
    · have HS := Lib.hid (show 1 = stepI x y by unfold stepI; rw [if_neg h1, if_pos h2])
      go_enter Try.func30, Try.ntmps30
      go_wp2_with fail
      refine (HN.out _ _).mono ?_
      rintro e w' ⟨rfl, rfl⟩
      go_wp2_with fail
      refine (HN.out _ _).mono ?_
      rintro e w' ⟨rfl, rfl⟩
      go_wp2
      go_ret
      exact ⟨ret_int HS.out, rfl⟩
    · have HS := Lib.hid (show 0 = stepI x y by unfold stepI; rw [if_neg h1, if_neg h2])
      go_enter Try.func30, Try.ntmps30
      go_wp2_with fail
      refine (HN.out _ _).mono ?_
      rintro e w' ⟨rfl, rfl⟩
      go_wp2_with fail
      refine (HN.out _ _).mono ?_
      rintro e w' ⟨rfl, rfl⟩
      go_wp2
      go_ret
      exact ⟨ret_int HS.out, rfl⟩
/-- A station one step nearer to its goal. -/
def psU (T : Int) (u : Usr) : Usr := ⟨u.code, u.data, u.gain + stepI (T * u.delay) u.gain, u.delay⟩
def psF (T : Int) (f : Nat → Usr) (i : Nat) : Usr := psU T (f i)
def psB (n : Nat) (f : Nat → Usr) (T : Int) : Bool := cellB n f && tgB T
def psN (n : Nat) (f : Nat → Usr) (T : Int) : Nat := if psB n f T = true then n else 0
theorem psN_le {n : Nat} {f : Nat → Usr} {T : Int} (hn : n ≤ 1048576) : psN n f T ≤ 1048576 := by unfold psN; split <;> omega
theorem ps_no {n : Nat} {f : Nat → Usr} {T : Int} (h : cellB n f = false) : psB n f T = false := by unfold psB; rw [h]; rfl
theorem ps_out {n : Nat} {f : Nat → Usr} {T : Int} (h : tgB T = false) : psB n f T = false := by unfold psB; rw [h]; simp
theorem ps_yes {n : Nat} {f : Nat → Usr} {T : Int} (h : cellB n f = true) (ht : tgB T = true) : psB n f T = true := by unfold psB; rw [h, ht]; rfl
theorem cellC_at {n k : Nat} {f : Nat → Usr} (h : cellB n f = true) (hk : k < n) : stnB (f k).code (f k).data (f k).gain (f k).delay = true := by
  unfold cellB at h
  simp only [Bool.and_eq_true] at h
  exact celN_at n h.1 hk
theorem cellC_le {n : Nat} {f : Nat → Usr} (h : cellB n f = true) : n ≤ 8 := by
  unfold cellB at h
  simp only [Bool.and_eq_true, decide_eq_true_eq] at h
  exact h.2
set_option maxHeartbeats 6400000 in
theorem iStep_any (v : Value) (n : Nat) (f : Nat → Usr) (T : Int) (w : World) (h : UsrsC w v n f) (hn : n ≤ 1048576) (hf : UsrSz n f) :
    Calls Try.prog 10 #[v, .int .i64 T] w fun e w' => ∃ u, e = .returned (.tuple #[u, .bool (psB n f T)]) ∧ TF w' w.heap.size u (psN n f T) (psF T f) ∧ Below w.heap.size w w' := by
  unfold psN
  have hv := fun w h => iCell_any v n f w h hn hf
  have ht := fun w => targetValid_any T w
  rw [show (decide (0 ≤ T) && decide (T ≤ 40)) = tgB T from rfl] at ht
  have HI := Lib.hid h
  obtain ⟨a, cap, rfl, hm, hc⟩ := id h
  have HC := Lib.hid hc
  clear hc hm h
  cases h1 : cellB n f with
  | false =>
    rw [ps_no (T := T) h1, if_neg (by simp)]
    rw [h1] at hv
    have HV := Lib.hid hv
    clear hv ht h1
    go_enter Try.func10, Try.ntmps10
    go_wp2_with fail
    refine (HV.out _ HI.out).mono ?_
    rintro e w1 ⟨rfl, b1⟩
    go_wp2
    go_ret2
    exact ⟨_, rfl, TF.nil _ _ _, b1⟩
  | true =>
    rw [h1] at hv
    have HV := Lib.hid hv
    clear hv
    cases h2 : tgB T with
    | false =>
      rw [ps_out (n := n) (f := f) h2, if_neg (by simp)]
      rw [h2] at ht
      have HT := Lib.hid ht
      clear ht h1 h2
      go_enter Try.func10, Try.ntmps10
      go_wp2_with fail
      refine (HV.out _ HI.out).mono ?_
      rintro e w1 ⟨rfl, b1⟩
      go_wp2_with fail
      refine (HT.out _).mono ?_
      rintro e w' ⟨rfl, rfl⟩
      go_wp2
      go_ret2
      exact ⟨_, rfl, TF.nil _ _ _, b1⟩
    | true =>
      rw [ps_yes h1 h2, if_pos rfl]
      have n8 := cellC_le h1
      have HY := Lib.hid (fun k (hk : k < n) => goV_yes (cellC_at h1 hk) h2)
      have HS := Lib.hid (fun k (hk : k < n) => (stnB_iff _ _ _ _).1 (cellC_at h1 hk))
      have HG := Lib.hid (fun k (hk : k < n) w => iGoal_any (f k).code (f k).data (f k).gain (f k).delay T w (by have := hf k hk; omega) (by have := hf k hk; omega))
      have HP := Lib.hid (fun w h => copied_any (.slice a n cap) n f w h hn hf)
      have HCM := Lib.hid (fun x y w => compare_any x y w)
      rw [h2] at ht
      have HT := Lib.hid ht
      clear ht h1 h2
      go_enter Try.func10, Try.ntmps10
      go_wp2_with fail
      refine (HV.out _ HI.out).mono ?_
      rintro e w1 ⟨rfl, b1⟩
      go_wp2_with fail
      refine (HT.out _).mono ?_
      rintro e w' ⟨rfl, rfl⟩
      go_wp2_with fail
      refine (HP.out _ (HI.out.below b1)).mono ?_
      rintro e w2 ⟨v2, rfl, O2, n2⟩
      have b2 := below_then b1 (Nat.le_refl _) n2
      have O3 := O2.mono b1.size
      clear n2 b1 O2
      obtain ⟨a2, c2, rfl, hg2⟩ := O3.form
      have HG2 := Lib.hid hg2
      clear hg2
      go_wp2
      go_loopw [21] (fun i wr => ∃ (k : Nat) (F : Nat → Usr), k ≤ n ∧ i = .int .i64 k ∧ TF wr w.heap.size (.slice a2 n c2) n F ∧ Hid (∀ i, F i = if i < k then psF T f i else f i) ∧ Below w.heap.size w wr) (fun i _ => n - (intOf i).toNat)
      case atStart => exact ⟨0, f, by omega, rfl, O3, Lib.hid (fun i => by rw [if_neg (by omega)]), b2⟩
      case round =>
        obtain ⟨k, F, hk, rfl, rO, rF, rb⟩ := hrel
        clear O3 b2
        by_cases hlt : k < n
        · obtain ⟨b, o, rfl, hx, hcc⟩ := HC.out k hlt
          obtain ⟨g, rfl, hgB, hgl⟩ := HG2.out (by omega)
          obtain ⟨c0, c1, c2, c3⟩ := hcc.below rb hx
          have i0 : (0 : Int) ≤ (k : Int) := by omega
          have i1 : (k : Int) < (n : Int) := by omega
          have hg := HG.out k hlt
          have hy := HY.out k hlt
          obtain ⟨-, -, g0, g1, d0, d1⟩ := HS.out k hlt
          have hFk : F k = f k := by rw [rF.out k, if_neg (Nat.lt_irrefl k)]
          have hps : psF T f k = ⟨(f k).code, (f k).data, (f k).gain + stepI (T * (f k).delay) (f k).gain, (f k).delay⟩ := rfl
          obtain ⟨C, hC⟩ : ∃ C, (f k).code = C := ⟨_, rfl⟩
          obtain ⟨D, hDD⟩ : ∃ C, (f k).data = C := ⟨_, rfl⟩
          obtain ⟨X, hX⟩ : ∃ C, (f k).gain = C := ⟨_, rfl⟩
          obtain ⟨Y, hYY⟩ : ∃ C, (f k).delay = C := ⟨_, rfl⟩
          rw [hC, hDD, hX, hYY] at hg hy hps
          rw [hX] at g0 g1
          rw [hC] at c0
          rw [hDD] at c1
          rw [hX] at c2
          rw [hYY] at c3
          rw [← hy] at hg
          obtain ⟨M, hM⟩ : ∃ M, T * Y = M := ⟨_, rfl⟩
          rw [hM] at hg hps
          have hcm := fun w => HCM.out M X w
          obtain ⟨s1, s2⟩ := stepI_bd M X
          obtain ⟨Z, hZ⟩ : ∃ Z, stepI M X = Z := ⟨_, rfl⟩
          rw [hZ] at hcm hps s1 s2
          have HGk := Lib.hid hg
          have HCk := Lib.hid hcm
          have ms : IntKind.i64.wrap (X + Z) = X + Z := IntWalk.i64_in _ (by omega)
          have r1 := rb.alloc rb.size (.cells #[.string C, .string D, .int .i64 X, .int .i64 Y] 30)
          have u0 := UsrAt.new wr 30 C D X Y
          have O1 := rO.alloc (.cells #[.string C, .string D, .int .i64 X, .int .i64 Y] 30)
          have HK := Lib.hid (show F k = ⟨C, D, X, Y⟩ by rw [hFk, ← hC, ← hDD, ← hX, ← hYY])
          have HPS := Lib.hid hps
          clear hg hy hcm hC hDD hX hYY hM hZ hps hFk hcc rO rb d0 d1 HS
          go_wp2_with fail
          clear c0 c1 c2 c3
          obtain ⟨V2, hV⟩ : ∃ V, wr.alloc (.cells #[.string C, .string D, .int .i64 X, .int .i64 Y] 30) = V := ⟨_, rfl⟩
          obtain ⟨G, hGG⟩ : ∃ G, wr.heap.size = G := ⟨_, rfl⟩
          rw [hGG] at u0 ⊢
          rw [hV] at u0 O1 r1 ⊢
          clear hV hGG
          obtain ⟨x0, x1, x2, x3, x4⟩ := id u0
          have dg := (O1.cells k hlt).2.2.1
          rw [HK.out] at dg
          dsimp only at dg
          go_region_with (first | (go_at_call 11; refine (HGk.out _).mono ?_; rintro e w5 ⟨rfl, hb5⟩; have n5 := below_then (below_drew (Below.refl V2.heap.size V2)) (Nat.le_refl _) hb5; obtain ⟨y0, y1, y2, y3, y4⟩ := u0.below n5 x4; have O5 := O1.below n5; have fr := O5.free; have dg5 := (O5.cells k hlt).2.2.1; rw [HK.out] at dg5; dsimp only at dg5) | (go_at_call 30; refine (HCk.out _).mono ?_; rintro e w7 ⟨rfl, rfl⟩))
          all_goals
            have O6 := Lib.hid (O5.set2 k (X + Z))
            have r6 : Hid (Below w.heap.size w (w5.setCell ⟨g, k * 4 + 2, none⟩ (.int .i64 (X + Z)))) := Lib.hid ((below_then r1 (Nat.le_refl _) n5).setCell (p := ⟨g, k * 4 + 2, none⟩) hgB _)
            have F6 : Hid (∀ i, upU F k ⟨(F k).code, (F k).data, X + Z, (F k).delay⟩ i = if i < k + 1 then psF T f i else f i) := Lib.hid (fun i => by
              by_cases e : i = k
              · rw [e, upU_eq, if_pos (by omega), HPS.out, HK.out]
              · rw [upU_ne e, rF.out i]
                by_cases e2 : i < k
                · rw [if_pos e2, if_pos (by omega)]
                · rw [if_neg e2, if_neg (by omega)])
            clear O5 O1 u0 x0 x1 x2 x3 x4 y0 y1 y2 y3 y4 n5 r1 fr ms hb5 dg dg5
            go_wp2
            go_roundw
            case rel => exact ⟨k + 1, _, by omega, by go_num, O6.out, F6, r6.out⟩
            case measure => simp [intOf]; omega
        · obtain rfl : n = k := by omega
          have O9 := Lib.hid (rO.congr (g := psF T f) (fun j hj => by rw [rF.out j, if_pos hj]))
          clear rO
          go_wp2
          go_ret2
          exact ⟨_, rfl, O9.out, rb⟩
end Go.Proofs.Ytjnipbopimpggab
