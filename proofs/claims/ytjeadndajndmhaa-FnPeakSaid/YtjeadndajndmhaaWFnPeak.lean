/- The walk of the law FnPeak. -/
import Derived.Test.YtjeadndajndmhaaDraw11
import Derived.Test.YtjeadndajndmhaaSeqYes
import Derived.Test.YtjeadndajndmhaaSeqAlg3
import Derived.Deep.RegionHeld3
namespace Go.Proofs.Ytjeadndajndmhaa
open Go.RowKit
set_option linter.unusedVariables false
set_option maxHeartbeats 1600000 in
set_option maxRecDepth 100000 in
theorem fnPeak_walk (a0 : Option Addr) (len0 cap0 : Nat) (z0 : List Int) (a1 : Option Addr) (len1 cap1 : Nat) (z1 : List Int) (w : World) (w0 : IsBytes w a0 len0 cap0 z0) (w1 : IsBytes w a1 len1 cap1 z1) :
    Calls Try.prog 6 #[.slice a0 len0 cap0, .slice a1 len1 cap1] w fun e w' => e = .returned (.bool true) ∧ Below w.heap.size w w' := by
  by_cases hl0 : 1048576 < len0
  · go_enter Try.func6, Try.ntmps6
    go_wp2
    go_ret
    exact ⟨rfl, Below.refl _ _⟩
  by_cases hl1 : 1048576 < len1
  · go_enter Try.func6, Try.ntmps6
    go_wp2
    go_ret
    exact ⟨rfl, Below.refl _ _⟩
  clear w1
  go_enter Try.func6, Try.ntmps6
  go_wp2_with fail
  refine (drawPeak_any a0 len0 cap0 z0 _ w0).mono ?_
  rintro e W1 ⟨a, b, rfl, ha, hb, b1⟩
  clear w0
  cases hv : pairB a b with
  | false =>
    have hI := fun w => iPeak_any a b w (by omega) (by omega)
    have hS := fun w => sPeak_any a b w (by omega) (by omega)
    rw [show peakAns a b = -1 by unfold peakAns tabN; rw [hv]; rfl] at hI hS
    have HI := Lib.hid hI
    have HS := Lib.hid hS
    clear hI hS hv
    go_wp2_with fail
    refine (HI.out _).mono ?_
    rintro e w' ⟨rfl, hB⟩
    have c1 := below_then b1 (Nat.le_refl _) hB
    clear hB b1
    go_wp2_with fail
    refine (HS.out _).mono ?_
    rintro e w' ⟨rfl, hB⟩
    have c2 := below_then c1 (Nat.le_refl _) hB
    clear hB c1
    go_wp2_with fail
    refine (HS.out _).mono ?_
    rintro e w' ⟨rfl, hB⟩
    have c3 := below_then c2 (Nat.le_refl _) hB
    clear hB c2
    go_wp2
    go_ret
    exact ⟨rfl, c3⟩
  | true =>
    obtain ⟨ha1, hb1, hab⟩ := (pairB_iff a b).1 hv
    have h12 := size_le ha1
    have hI := fun w => iPeak_any a b w (by omega) (by omega)
    have hS := fun w => sPeak_any a b w (by omega) (by omega)
    have hT := fun w => iTab_any a b w (by omega) (by omega)
    have hO := fun w => iPeak_any a a w (by omega) (by omega)
    rw [peak_own a ha1] at hO
    have hn : tabN a b = a.size := by unfold tabN; rw [hv]; rfl
    rw [hn] at hT
    have hbd := peakI_bd (tabF a b) a.size
    obtain ⟨K, hK⟩ : ∃ K : Nat, peakAns a b = K := ⟨(peakAns a b).toNat, by unfold peakAns; rw [hn]; omega⟩
    have htop := peakI_top (tabF a b) a.size K (by rw [← hK]; unfold peakAns; rw [hn])
    have hKn : K < a.size := by have : peakI (tabF a b) a.size = K := by rw [← hK]; unfold peakAns; rw [hn]
                                omega
    rw [hK] at hI hS
    obtain ⟨s', hs'⟩ : ∃ s' : Nat, len1 % a.size = s' := ⟨_, rfl⟩
    have hss : (len1 : Int) % (a.size : Int) = (s' : Int) := by rw [← Int.natCast_emod, hs']
    have hs1 : s' < a.size := by rw [← hs']; exact Nat.mod_lt _ (by omega)
    have hP := fun w => iPeak_any a (shift a (s' : Int)) w (by omega) (by rw [shift_size]; omega)
    rw [peak_shift a s' ha1] at hP
    have H1 := Lib.hid (fun w => ssShift_yes a (s' : Int) w ha1)
    have H2 := Lib.hid (fun w => iLeast_yes a w ha1)
    have hlb := leastP_bd a h12.1
    obtain ⟨P, hPP⟩ : ∃ P, leastP a = P := ⟨_, rfl⟩
    rw [hPP] at hP H2 hlb
    have hP1 : 1 ≤ P := hlb.1
    have hP2 : P ≤ 255 := by omega
    obtain ⟨r, hr⟩ : ∃ r, s' % P = r := ⟨_, rfl⟩
    have hrr : (s' : Int) % (P : Int) = (r : Int) := by rw [← Int.natCast_emod, hr]
    have hr1 : r < P := by rw [← hr]; exact Nat.mod_lt _ (by omega)
    rw [hr] at hP
    obtain ⟨q, hq⟩ : ∃ q, (P - r) % P = q := ⟨_, rfl⟩
    rw [hq] at hP
    have hqq : ((P : Int) - (r : Int)) % (P : Int) = (q : Int) := by rw [show (P : Int) - (r : Int) = ((P - r : Nat) : Int) by omega, ← Int.natCast_emod, hq]
    obtain ⟨y, hy⟩ : ∃ y, shift a (s' : Int) = y := ⟨_, rfl⟩
    rw [hy] at hP H1
    obtain ⟨f, hF⟩ : ∃ f, tabF a b = f := ⟨_, rfl⟩
    rw [hF] at hT htop
    have HI := Lib.hid hI
    have HS := Lib.hid hS
    have HT := Lib.hid hT
    have HO := Lib.hid hO
    have HP := Lib.hid hP
    have HTOP := Lib.hid htop
    have HSS := Lib.hid hss
    have HRR := Lib.hid hrr
    have HQQ := Lib.hid hqq
    clear hI hS hT hO hP htop hss hrr hqq hq hr hs' hy hF hK hbd hn hPP hlb hv ha1 hb1 hab
    go_wp2_with fail
    refine (HI.out _).mono ?_
    rintro e w' ⟨rfl, hB⟩
    have c1 := below_then b1 (Nat.le_refl _) hB
    clear hB b1
    go_wp2_with fail
    refine (HS.out _).mono ?_
    rintro e w' ⟨rfl, hB⟩
    have c2 := below_then c1 (Nat.le_refl _) hB
    clear hB c1
    go_wp2_with fail
    refine (HT.out _).mono ?_
    rintro e wt ⟨v, rfl, O, hB⟩
    have bt := below_then c2 (Nat.le_refl _) hB
    clear hB c2
    obtain ⟨sl, cap, rfl, hsl⟩ := O.form
    obtain ⟨g, rfl, _, _, hg⟩ := hsl (by omega)
    have HG := Lib.hid hg
    clear hsl hg O
    go_wp2_with fail
    go_loopw [9] (fun i wr => ∃ k m : Nat, k ≤ a.size ∧ i = .int .i64 k ∧ wr = wt.drewN m) (fun i _ => a.size - (intOf i).toNat)
    case atStart => exact ⟨0, 0, by omega, rfl, rfl⟩
    case round =>
      obtain ⟨k, m, hk, rfl, rfl⟩ := hrel
      by_cases hlt : k < a.size
      · have c1 : (wt.drewN m).cell? ⟨g, k, none⟩ = some (.int .i64 (f k)) := (HG.out k hlt).1
        have d1 : (wt.drewN m).cell? ⟨g, K, none⟩ = some (.int .i64 (f K)) := (HG.out K hKn).1
        have hle := HTOP.out.1 k hlt
        have hlk := HTOP.out.2 k
        obtain ⟨W, hW⟩ : ∃ W, wt.drewN m = W := ⟨_, rfl⟩
        obtain ⟨x, hx⟩ : ∃ x, f k = x := ⟨_, rfl⟩
        obtain ⟨y', hy'⟩ : ∃ x, f K = x := ⟨_, rfl⟩
        rw [hx] at c1 hle hlk
        rw [hy'] at d1 hle hlk
        rw [hW] at c1 d1 ⊢
        have HW := Lib.hid hW
        have i0 : (0 : Int) ≤ (k : Int) := by omega
        have i1 : (k : Int) < (a.size : Int) := by omega
        have j0 : (0 : Int) ≤ (K : Int) := by omega
        have j1 : (K : Int) < (a.size : Int) := by omega
        have t1 : decide (y' < x) = false := by simpa using hle
        clear hW hx hy'
        by_cases hik : k < K
        · have hxy := hlk hik
          have t2 : (x == y') = false := by simp; omega
          have t3 : (k : Int) < (K : Int) := by omega
          have t4 : decide ((k : Int) < (K : Int)) = true := by simpa using t3
          clear hlk hle hxy
          go_wp2_with fail
          go_quiet (fail)
          clear c1 d1
          go_wp2
          go_roundw
          case rel => exact ⟨k + 1, m + nq, by omega, by go_num, by rw [← HW.out, World.drewN_drewN]⟩
          case measure => simp [intOf]; omega
        · have t3 : ¬ (k : Int) < (K : Int) := by omega
          have t4 : decide ((k : Int) < (K : Int)) = false := by simpa using t3
          clear hlk hle
          go_wp2_with fail
          go_quiet (fail)
          clear c1 d1
          go_wp2
          go_roundw
          case rel => exact ⟨k + 1, m + nq, by omega, by go_num, by rw [← HW.out, World.drewN_drewN]⟩
          case measure => simp [intOf]; omega
      · have bt' := below_drewN bt m
        obtain ⟨W, hW⟩ : ∃ W, wt.drewN m = W := ⟨_, rfl⟩
        rw [hW] at bt' ⊢
        clear hW
        go_wp2_with fail
        refine (HO.out _).mono ?_
        rintro e w' ⟨rfl, hB⟩
        have c70 := below_then bt' (Nat.le_refl _) hB
        clear hB bt'
        have hss := HSS.out
        have hss2 : (len1 : Int).tmod (a.size : Int) = (s' : Int) := by rw [Int.tmod_eq_emod_of_nonneg (by omega)]; exact hss
        go_wp2_with fail
        have hrr : (s' : Int).tmod (P : Int) = (r : Int) := by rw [Int.tmod_eq_emod_of_nonneg (by omega)]; exact HRR.out
        have hw : IntKind.i64.wrap ((P : Int) - (r : Int)) = (P : Int) - (r : Int) := IntWalk.i64_in _ (by omega)
        have hqq : ((P : Int) - (r : Int)).tmod (P : Int) = (q : Int) := by rw [Int.tmod_eq_emod_of_nonneg (by omega)]; exact HQQ.out
        have hP0 : (0 : Int) < (P : Int) := by omega
        have hP3 : ¬ P = 0 := by omega
        have hP4 : ((P : Int) == 0) = false := beq_eq_false_iff_ne.2 (by omega)
        have hP5 : ¬ (P : Int) = 0 := by omega
        clear hss hss2
        go_region_held3 (fun wx => Below w.heap.size w wx) (first | exact cE | exact cD | exact cC | exact cB | exact cA | exact c70.drew) (first
          | (go_at_call 13; refine (H1.out _).mono ?_; rintro e w5 ⟨rfl, hB⟩; have cA := below_then c70.drew (Nat.le_refl _) hB; clear hB)
          | (go_at_call 22; refine (HP.out _).mono ?_; rintro e w6 ⟨rfl, hB⟩; have cB := below_then cA (Nat.le_refl _) hB; clear hB)
          | (go_at_call 10; refine (H2.out _).mono ?_; rintro e w7 ⟨rfl, hB⟩; first | have cE := below_then cD (Nat.le_refl _) hB | have cD := below_then cC (Nat.le_refl _) hB | have cC := below_then cB (Nat.le_refl _) hB))
        all_goals
          go_wp2
          go_ret
          exact ⟨rfl, cE⟩
end Go.Proofs.Ytjeadndajndmhaa
