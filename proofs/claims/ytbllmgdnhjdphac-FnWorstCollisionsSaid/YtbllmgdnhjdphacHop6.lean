/- JammedHops of both sides. -/
import Derived.Test.YtbllmgdnhjdphacHop5
namespace Go.Proofs.Ytbllmgdnhjdphac
open Go.RowKit Go.Maps
set_option linter.unusedVariables false
set_option maxRecDepth 100000
def jmV (n : Nat) (z : Nat → Int) (m : Nat) (j : Nat → Int) : Int := if hopB n z 16 && jamB m j then (lostC z m j n : Nat) else -1
theorem iJam_any (v : Value) (m : Nat) (j : Nat → Int) (w : World) (h : IntsR w v m j) (hm : m ≤ 1048576) :
    Calls Try.prog 42 #[v] w fun e w' => e = .returned (.bool (jamB m j)) ∧ w = w' := by
  have hv := fun w h => iHops_any v m j 16 w h hm
  have HR := Lib.hid h
  obtain ⟨a, cap, rfl, -⟩ := h
  by_cases h0 : m ≤ 16
  · have HV := Lib.hid hv
    have l0 : (m : Int) ≤ 16 := by omega
    have HE := Lib.hid (show hopB m j 16 = jamB m j by unfold jamB; rw [decide_eq_true h0, Bool.true_and])
    clear hv
    go_enter Try.func42, Try.ntmps42
    go_wp2_with fail
    refine (HV.out _ HR.out).mono ?_
    rintro e w' ⟨rfl, rfl⟩
    go_wp2
    go_ret
    exact ⟨ret_bool HE.out, rfl⟩
  · have l0 : ¬ ((m : Int) ≤ 16) := by omega
    have HE := Lib.hid (show false = jamB m j by unfold jamB; rw [decide_eq_false h0, Bool.false_and])
    clear hv
    go_enter Try.func42, Try.ntmps42
    go_wp2
    go_ret
    exact ⟨ret_bool HE.out, rfl⟩
theorem sJam_any (v : Value) (m : Nat) (j : Nat → Int) (w : World) (h : IntsR w v m j) (hm : m ≤ 1048576) :
    Calls Try.prog 47 #[v] w fun e w' => e = .returned (.bool (jamB m j)) ∧ w = w' := by
  have hv := fun w h => sHops16_any v m j w h hm
  have HR := Lib.hid h
  obtain ⟨a, cap, rfl, -⟩ := h
  cases hH : hopB m j 16 with
  | false =>
    rw [hH] at hv
    have HV := Lib.hid hv
    have HE := Lib.hid (show false = jamB m j by unfold jamB; rw [hH, Bool.and_false])
    clear hv hH
    go_enter Try.func47, Try.ntmps47
    go_wp2_with fail
    refine (HV.out _ HR.out).mono ?_
    rintro e w' ⟨rfl, rfl⟩
    go_wp2
    go_ret
    exact ⟨ret_bool HE.out, rfl⟩
  | true =>
    rw [hH] at hv
    have HV := Lib.hid hv
    have HE := Lib.hid (show decide ((m : Int) ≤ 16) = jamB m j by unfold jamB; rw [hH, Bool.and_true]; exact decide_eq_decide.2 (by omega))
    clear hv hH
    go_enter Try.func47, Try.ntmps47
    go_wp2_with fail
    refine (HV.out _ HR.out).mono ?_
    rintro e w' ⟨rfl, rfl⟩
    go_wp2
    go_ret
    exact ⟨ret_bool HE.out, rfl⟩
theorem sHas_any (v : Value) (m : Nat) (j : Nat → Int) (y : Int) (w : World) (h : IntsR w v m j) (hm : m ≤ 1048576) :
    Calls Try.prog 48 #[v, .int .i64 y] w fun e w' => e = .returned (.bool (isJ m j y)) ∧ w = w' := by
  obtain ⟨a, cap, rfl, hc⟩ := h
  have HC := Lib.hid hc
  have HNO := Lib.hid (fun (h : ∀ i, i < m → ¬ j i = y) => (isJ_no h).symm)
  have HYES := Lib.hid (fun i (hi : i < m) (e : j i = y) => (isJ_yes hi e).symm)
  clear hc
  go_enter Try.func48, Try.ntmps48
  go_wp2
  go_loop [5] (fun t => ∃ k : Nat, k ≤ m ∧ t = .int .i64 k ∧ Hid (∀ l, l < k → ¬ j l = y)) (fun t => m - (intOf t).toNat)
  case atStart => exact ⟨0, Nat.zero_le _, rfl, Lib.hid (fun l hl => absurd hl (Nat.not_lt_zero _))⟩
  case round =>
    obtain ⟨k, hk, rfl, rA⟩ := hrel
    by_cases hkl : k < m
    · obtain ⟨x2, rfl, hx2, c1⟩ := HC.out k hkl
      have k0 : (0 : Int) ≤ (k : Int) := by omega
      have k1 : (k : Int) < (m : Int) := by omega
      by_cases he : j k = y
      · have HE := Lib.hid (HYES.out k hkl he)
        rw [he] at c1
        clear he rA hx2
        go_wp2
        go_ret
        exact ⟨ret_bool HE.out, rfl⟩
      · have e2 : ∀ l, l < k + 1 → ¬ j l = y := fun l hl => by
          rcases Nat.lt_or_ge l k with h | h
          · exact rA.out l h
          · rw [show l = k by omega]; exact he
        have nA := Lib.hid e2
        obtain ⟨X, hX⟩ : ∃ X, j k = X := ⟨_, rfl⟩
        rw [hX] at c1 he
        have e3 : (X == y) = false := by simp; exact he
        clear hX rA hx2 e2
        go_wp2
        go_round
        case rel => exact ⟨k + 1, by omega, by go_num, nA⟩
        case measure => simp [intOf]; omega
    · obtain rfl : k = m := by omega
      have HE := Lib.hid (HNO.out rA.out)
      clear rA
      go_wp2
      go_ret
      exact ⟨ret_bool HE.out, rfl⟩
theorem iJm_any (v : Value) (n : Nat) (z : Nat → Int) (u : Value) (m : Nat) (j : Nat → Int) (w : World) (h : IntsR w v n z) (hn : n ≤ 1048576) (hu : IntsR w u m j) (hm : m ≤ 1048576) :
    Calls Try.prog 17 #[v, u] w fun e w' => e = .returned (.int .i64 (jmV n z m j)) ∧ Below w.heap.size w w' := by
  have h1 := fun w h => iHops_any v n z 16 w h hn
  have h2 := fun w h => iJam_any u m j w h hm
  have HU := Lib.hid hu
  have HR := Lib.hid h
  have hno : (hopB n z 16 && jamB m j) = false → jmV n z m j = -1 := fun h => by unfold jmV; rw [h]; rfl
  have hyes : (hopB n z 16 && jamB m j) = true → jmV n z m j = (lostC z m j n : Nat) := fun h => by unfold jmV; rw [h]; rfl
  cases hH : hopB n z 16 with
  | false =>
    rw [hno (by rw [hH]; rfl)]
    rw [hH] at h1
    have H1 := Lib.hid h1
    clear h1 h2 hno hyes hH h hu
    go_enter Try.func17, Try.ntmps17
    go_wp2_with fail
    refine (H1.out _ HR.out).mono ?_
    rintro e w' ⟨rfl, rfl⟩
    go_wp2
    go_ret
    exact ⟨rfl, Below.refl _ _⟩
  | true =>
    rw [hH] at h1
    have H1 := Lib.hid h1
    cases hJ : jamB m j with
    | false =>
      rw [hno (by rw [hH, hJ]; rfl)]
      rw [hJ] at h2
      have H2 := Lib.hid h2
      clear h1 h2 hno hyes hH hJ h hu
      go_enter Try.func17, Try.ntmps17
      go_wp2_with fail
      refine (H1.out _ HR.out).mono ?_
      rintro e w' ⟨rfl, rfl⟩
      go_wp2_with fail
      refine (H2.out _ HU.out).mono ?_
      rintro e w' ⟨rfl, rfl⟩
      go_wp2
      go_ret
      exact ⟨rfl, Below.refl _ _⟩
    | true =>
      rw [hyes (by rw [hH, hJ]; rfl)]
      rw [hJ] at h2
      have H2 := Lib.hid h2
      obtain ⟨-, n3, -⟩ := (hopB_iff n z 16).1 hH
      obtain ⟨m3, -⟩ := (jamB_iff m j).1 hJ
      have HO := Lib.hid (open_slots v u n m z j w h hu n3 m3)
      have HL := lostC_le z m j n
      obtain ⟨L, hL⟩ : ∃ L, lostC z m j n = L := ⟨_, rfl⟩
      rw [hL] at HL ⊢
      have HLL := Lib.hid hL
      obtain ⟨a, cap, rfl, -⟩ := h
      clear h1 h2 hno hyes hH hJ hu hL
      go_enter Try.func17, Try.ntmps17
      go_wp2_with fail
      refine (H1.out _ HR.out).mono ?_
      rintro e w' ⟨rfl, rfl⟩
      go_wp2_with fail
      refine (H2.out _ HU.out).mono ?_
      rintro e w' ⟨rfl, rfl⟩
      go_wp2_with fail
      refine HO.out.mono ?_
      rintro e w1 ⟨b, D, rfl, hown, hb, hM, hB⟩
      have hsz := hM.2.2.2
      rw [HLL.out] at hsz
      obtain ⟨Z, hZ⟩ : ∃ Z, Maps.size D = Z := ⟨_, rfl⟩
      rw [hZ] at hsz
      have e1 : (n : Int) - (Z : Int) = (L : Int) := by omega
      have HZ := Lib.hid hZ
      have u1 : IntKind.i64.wrap ((n : Int) - (Z : Int)) = (L : Int) := by rw [e1]; exact IntWalk.i64_in _ (by omega)
      clear hM hsz hb hZ e1
      go_wp2_with (first
        | (at_len; refine wpList_len_own _ rfl _ 56 rfl 3 4 Try.underlying56 _ b n D rfl hown ?_; rw [HZ.out])
        | go_in)
      go_ret
      exact ⟨rfl, hB⟩
theorem sJm_any (v : Value) (n : Nat) (z : Nat → Int) (u : Value) (m : Nat) (j : Nat → Int) (w : World) (h : IntsR w v n z) (hn : n ≤ 1048576) (hu : IntsR w u m j) (hm : m ≤ 1048576) :
    Calls Try.prog 20 #[v, u] w fun e w' => e = .returned (.int .i64 (jmV n z m j)) ∧ Below w.heap.size w w' := by
  have h1 := fun w h => sHops16_any v n z w h hn
  have h2 := fun w h => sJam_any u m j w h hm
  have HU := Lib.hid hu
  have HR := Lib.hid h
  have hno : (hopB n z 16 && jamB m j) = false → jmV n z m j = -1 := fun h => by unfold jmV; rw [h]; rfl
  have hyes : (hopB n z 16 && jamB m j) = true → jmV n z m j = (lostC z m j n : Nat) := fun h => by unfold jmV; rw [h]; rfl
  cases hH : hopB n z 16 with
  | false =>
    rw [hno (by rw [hH]; rfl)]
    rw [hH] at h1
    have H1 := Lib.hid h1
    clear h1 h2 hno hyes hH h hu
    go_enter Try.func20, Try.ntmps20
    go_wp2_with fail
    refine (H1.out _ HR.out).mono ?_
    rintro e w' ⟨rfl, rfl⟩
    go_wp2
    go_ret
    exact ⟨rfl, Below.refl _ _⟩
  | true =>
    rw [hH] at h1
    have H1 := Lib.hid h1
    cases hJ : jamB m j with
    | false =>
      rw [hno (by rw [hH, hJ]; rfl)]
      rw [hJ] at h2
      have H2 := Lib.hid h2
      clear h1 h2 hno hyes hH hJ h hu
      go_enter Try.func20, Try.ntmps20
      go_wp2_with fail
      refine (H1.out _ HR.out).mono ?_
      rintro e w' ⟨rfl, rfl⟩
      go_wp2_with fail
      refine (H2.out _ HU.out).mono ?_
      rintro e w' ⟨rfl, rfl⟩
      go_wp2
      go_ret
      exact ⟨rfl, Below.refl _ _⟩
    | true =>
      rw [hyes (by rw [hH, hJ]; rfl)]
      rw [hJ] at h2
      have H2 := Lib.hid h2
      obtain ⟨-, n3, -⟩ := (hopB_iff n z 16).1 hH
      have HS := Lib.hid (fun y w h => sHas_any u m j y w h hm)
      have HY := Lib.hid (fun k (h : isJ m j (z k) = true) => lostC_yes (m := m) (j := j) (k := k) h)
      have HN := Lib.hid (fun k (h : isJ m j (z k) = false) => lostC_no (m := m) (j := j) (k := k) h)
      have HL := Lib.hid (fun k => lostC_le z m j k)
      obtain ⟨a, cap, rfl, hc⟩ := h
      have HC := Lib.hid hc
      clear h1 h2 hno hyes hH hJ hu hc
      go_enter Try.func20, Try.ntmps20
      go_wp2_with fail
      refine (H1.out _ HR.out).mono ?_
      rintro e w' ⟨rfl, rfl⟩
      go_wp2_with fail
      refine (H2.out _ HU.out).mono ?_
      rintro e w' ⟨rfl, rfl⟩
      go_wp2
      go_loop [5, 6] (fun s t => ∃ k : Nat, k ≤ n ∧ t = .int .i64 k ∧ s = .int .i64 (lostC z m j k : Nat)) (fun _ t => n - (intOf t).toNat)
      case atStart => exact ⟨0, Nat.zero_le _, rfl, rfl⟩
      case round =>
        obtain ⟨k, hk, rfl, rfl⟩ := hrel
        by_cases hkl : k < n
        · obtain ⟨x2, rfl, hx2, c1⟩ := HC.out k hkl
          have k0 : (0 : Int) ≤ (k : Int) := by omega
          have k1 : (k : Int) < (n : Int) := by omega
          have hl := HL.out k
          have hs := fun w h => HS.out (z k) w h
          cases hq : isJ m j (z k) with
          | true =>
            have HE := HY.out k hq
            rw [hq] at hs
            obtain ⟨M, hM⟩ : ∃ M, lostC z m j k = M := ⟨_, rfl⟩
            rw [hM] at hl HE ⊢
            have HEE := Lib.hid HE
            obtain ⟨Y, hY⟩ : ∃ Y, z k = Y := ⟨_, rfl⟩
            rw [hY] at c1 hs
            have HSS := Lib.hid hs
            clear hs hx2 HE hM hq hY
            go_wp2_with fail
            refine (HSS.out _ HU.out).mono ?_
            rintro e w' ⟨rfl, rfl⟩
            go_wp2
            go_round
            case rel => exact ⟨k + 1, by omega, by go_num, by rw [HEE.out]; go_num⟩
            case measure => simp [intOf]; omega
          | false =>
            have HE := HN.out k hq
            rw [hq] at hs
            obtain ⟨M, hM⟩ : ∃ M, lostC z m j k = M := ⟨_, rfl⟩
            rw [hM] at hl HE ⊢
            have HEE := Lib.hid HE
            obtain ⟨Y, hY⟩ : ∃ Y, z k = Y := ⟨_, rfl⟩
            rw [hY] at c1 hs
            have HSS := Lib.hid hs
            clear hs hx2 HE hM hq hY
            go_wp2_with fail
            refine (HSS.out _ HU.out).mono ?_
            rintro e w' ⟨rfl, rfl⟩
            go_wp2
            go_round
            case rel => exact ⟨k + 1, by omega, by go_num, by rw [HEE.out]⟩
            case measure => simp [intOf]; omega
        · obtain rfl : k = n := by omega
          go_wp2
          go_ret
          exact ⟨rfl, Below.refl _ _⟩
end Go.Proofs.Ytbllmgdnhjdphac
