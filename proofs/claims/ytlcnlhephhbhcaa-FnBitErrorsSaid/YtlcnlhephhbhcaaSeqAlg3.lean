/- Peaks of correlations on plain numbers; the laws' own comparison of lists. -/
import Derived.Test.YtlcnlhephhbhcaaSeqAlg2
import Derived.Test.YtlcnlhephhbhcaaSeqPeak
namespace Go.Proofs.Ytlcnlhephhbhcaa
open Go.RowKit
set_option linter.unusedVariables false
theorem peakI_top (f : Nat → Int) : ∀ n q : Nat, peakI f n = q → (∀ i, i < n → f i ≤ f q) ∧ (∀ i, i < q → f i < f q)
  | 0, q, h => by have : peakI f 0 = -1 := rfl; omega
  | n + 1, q, h => by
    have hb := peakI_bd f n
    simp only [peakI] at h
    split at h
    · rename_i hc
      obtain rfl : q = n := by omega
      by_cases h0 : q = 0
      · subst h0
        exact ⟨fun i hi => by obtain rfl : i = 0 := by omega
                              exact Int.le_refl _, fun i hi => by omega⟩
      · obtain ⟨p, hp⟩ : ∃ p : Nat, peakI f q = p := ⟨(peakI f q).toNat, by omega⟩
        have ih := peakI_top f q p hp
        have hlt : f p < f q := by
          rcases hc with hc | hc
          · omega
          · rw [hp] at hc; exact hc
        refine ⟨fun i hi => ?_, fun i hi => ?_⟩
        · by_cases e : i = q
          · rw [e]; exact Int.le_refl _
          · have := ih.1 i (by omega); omega
        · have := ih.1 i hi; omega
    · rename_i hc
      have ih := peakI_top f n q h
      have hn : ¬ f q < f n := fun e => hc (.inr (by rw [h]; exact e))
      refine ⟨fun i hi => ?_, ih.2⟩
      by_cases e : i = n
      · rw [e]; omega
      · exact ih.1 i (by omega)
theorem peak_first (f : Nat → Int) (n k : Nat) (hk : k < n) (h1 : ∀ i, i < n → f i ≤ f k) (h2 : ∀ i, i < k → f i < f k) : peakI f n = (k : Int) := by
  have hb := peakI_bd f n
  obtain ⟨q, hq⟩ : ∃ q : Nat, peakI f n = q := ⟨(peakI f n).toNat, by omega⟩
  have ht := peakI_top f n q hq
  have hqn : q < n := by omega
  rcases Nat.lt_trichotomy q k with h | h | h
  · have := h2 q h; have := ht.1 k hk; omega
  · rw [hq, h]
  · have := ht.2 k h; have := h1 q hqn; omega
theorem cross_le (a b : ByteArray) (k : Nat) : crossN a b k ≤ a.size := (crossN_bd a b k).2
theorem peak_own (a : ByteArray) (h : seqB a = true) : peakAns a a = 0 := by
  have h12 := size_le h
  unfold peakAns
  rw [show tabN a a = a.size by unfold tabN; rw [pairB_mk h h rfl]; rfl]
  have h0 : tabF a a 0 = a.size := (cross_full a a 0).2 fun i hi => by unfold shB; rw [Nat.zero_add, Nat.mod_eq_of_lt hi]
  exact peak_first _ _ 0 (by omega) (fun i _ => by rw [h0]; exact cross_le a a i) (fun i hi => by omega)
theorem mod_turn (P s : Nat) (hP : 0 < P) : ((P - s % P) % P + s) % P = 0 ∧ ∀ i, i < (P - s % P) % P → (i + s) % P ≠ 0 := by
  have hl := Nat.mod_lt s hP
  have hs := Nat.div_add_mod s P
  by_cases h0 : s % P = 0
  · rw [h0, Nat.sub_zero, Nat.mod_self]
    exact ⟨by rw [Nat.zero_add]; exact h0, fun i hi => by omega⟩
  · have e : (P - s % P) % P = P - s % P := Nat.mod_eq_of_lt (by omega)
    rw [e]
    refine ⟨?_, fun i hi => ?_⟩
    · rw [show P - s % P + s = P * (s / P + 1) by rw [Nat.mul_add, Nat.mul_one]; omega]
      exact Nat.mul_mod_right _ _
    · rw [show i + s = (i + s % P) + P * (s / P) by omega, Nat.add_mul_mod_self_left, Nat.mod_eq_of_lt (by omega)]
      omega
theorem peak_shift (a : ByteArray) (s : Nat) (h : seqB a = true) : peakAns a (shift a (s : Int)) = (((leastP a - s % leastP a) % leastP a : Nat) : Int) := by
  have h12 := size_le h
  have hb := leastP_bd a h12.1
  have hiff := per_iff a h12.1
  unfold peakAns
  rw [show tabN a (shift a (s : Int)) = a.size by unfold tabN; rw [pairB_mk h (seqB_shift _ h) (shift_size _ _).symm]; rfl]
  have hf : ∀ i, i < a.size → tabF a (shift a (s : Int)) i = crossN a a (modN ((i : Int) + (s : Int)) a.size) := fun i hi => by
    have e := cross_second a a (i : Int) (s : Int) rfl (by omega)
    rw [shift_size, modN_of_nat, Nat.mod_eq_of_lt hi] at e
    exact e
  have hfull : ∀ i, i < a.size → (tabF a (shift a (s : Int)) i = a.size ↔ (i + s) % leastP a = 0) := fun i hi => by
    rw [hf i hi, auto_full, show (i : Int) + (s : Int) = ((i + s : Nat) : Int) by omega, hiff]
  obtain ⟨m1, m2⟩ := mod_turn (leastP a) s (by omega)
  have hk : (leastP a - s % leastP a) % leastP a < a.size := Nat.lt_of_lt_of_le (Nat.mod_lt _ (by omega)) hb.2
  have hk0 := (hfull _ hk).2 m1
  refine peak_first _ _ _ hk (fun i hi => by rw [hk0]; exact cross_le _ _ _) (fun i hi => ?_)
  rw [hk0]
  have hle : tabF a (shift a (s : Int)) i ≤ a.size := cross_le _ _ _
  have hne : ¬ tabF a (shift a (s : Int)) i = a.size := fun e => m2 i hi ((hfull i (by omega)).1 e)
  omega
theorem sumI_bd2 {f : Nat → Int} {M : Int} (hM : 0 ≤ M) (hf : ∀ i, -M ≤ f i ∧ f i ≤ M) : ∀ n : Nat, -(M * n) ≤ sumI f n ∧ sumI f n ≤ M * n
  | 0 => by simp [sumI]
  | n + 1 => by
    have := sumI_bd2 hM hf n
    have := hf n
    simp only [sumI]
    rw [show ((n + 1 : Nat) : Int) = (n : Int) + 1 by omega, Int.mul_add, Int.mul_one]
    omega
set_option maxRecDepth 100000 in
theorem ssInts_same (v u : Value) (B C n : Nat) (f : Nat → Int) (w : World) (hv : OF w B v n f) (hu : OF w C u n f) (hn : n ≤ 1000000) :
    Calls Try.prog 38 #[v, u] w fun e w' => e = .returned (.bool true) ∧ ∃ m, w' = w.drewN m := by
  obtain ⟨a, cap, rfl, ha⟩ := hv.form
  obtain ⟨b, cap', rfl, hb⟩ := hu.form
  clear hv hu
  by_cases h0 : 0 < n
  · obtain ⟨g, rfl, _, _, hg⟩ := ha h0
    obtain ⟨g', rfl, _, _, hg'⟩ := hb h0
    have HG := Lib.hid hg
    have HG' := Lib.hid hg'
    clear ha hb hg hg'
    go_enter Try.func38, Try.ntmps38
    go_wp2
    go_loopw [5] (fun i wr => ∃ k m : Nat, k ≤ n ∧ i = .int .i64 k ∧ wr = w.drewN m) (fun i _ => n - (intOf i).toNat)
    case atStart => exact ⟨0, 0, by omega, rfl, rfl⟩
    case round =>
      obtain ⟨k, m, hk, rfl, rfl⟩ := hrel
      by_cases hlt : k < n
      · have c1 : (w.drewN m).cell? ⟨g, k, none⟩ = some (.int .i64 (f k)) := (HG.out k hlt).1
        have c2 : (w.drewN m).cell? ⟨g', k, none⟩ = some (.int .i64 (f k)) := (HG'.out k hlt).1
        obtain ⟨W, hW⟩ : ∃ W, w.drewN m = W := ⟨_, rfl⟩
        rw [hW] at c1 c2 ⊢
        have HW := Lib.hid hW
        have i0 : (0 : Int) ≤ (k : Int) := by omega
        have i1 : (k : Int) < (n : Int) := by omega
        clear hW
        go_wp2_with fail
        go_quiet (fail)
        clear c1 c2
        go_wp2
        go_roundw
        case rel => exact ⟨k + 1, m + nq, by omega, by go_num, by rw [← HW.out, World.drewN_drewN]⟩
        case measure => simp [intOf]; omega
      · obtain rfl : k = n := by omega
        go_wp2
        go_ret
        exact ⟨rfl, m, rfl⟩
  · obtain rfl : n = 0 := by omega
    clear ha hb
    go_enter Try.func38, Try.ntmps38
    go_wp2
    go_loop [5] (fun i => i = .int .i64 (0 : Nat)) (fun i => (intOf i).toNat)
    case atStart => exact rfl
    case round =>
      obtain rfl := hrel
      go_wp2
      go_ret
      exact ⟨rfl, 0, rfl⟩
end Go.Proofs.Ytlcnlhephhbhcaa
