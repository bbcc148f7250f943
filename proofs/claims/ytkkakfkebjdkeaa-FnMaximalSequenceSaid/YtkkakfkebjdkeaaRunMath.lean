/- Plain mathematics of runs: their lengths, their number, and how a sequence agrees with the next bits. -/
import Derived.Test.YtkkakfkebjdkeaaSeqRuns3
import Derived.Test.YtkkakfkebjdkeaaSeqAlg
namespace Go.Proofs.Ytkkakfkebjdkeaa
set_option linter.unusedVariables false
theorem LF_get {l : List Int} {i : Nat} (h : i < l.length) : LF l i = l[i] := by unfold LF; rw [List.getD_eq_getElem?_getD, List.getElem?_eq_getElem h]; rfl
/-- Do two bits differ? -/
def difB (p q : Nat) : Nat := if p = q then 0 else 1
/-- How many of the first k bits differ from the next one. -/
def chN (z : ByteArray) : Nat → Nat
  | 0 => 0
  | k + 1 => chN z k + difB (zb z k) (zb z ((k + 1) % z.size))
theorem chN_le (z : ByteArray) : ∀ k, chN z k ≤ k
  | 0 => Nat.le_refl _
  | k + 1 => by have := chN_le z k; simp only [chN]; unfold difB; split <;> omega
theorem chN_sum (z : ByteArray) : ∀ k, (chN z k : Int) = sumI (fun i => (difB (zb z i) (zb z ((i + 1) % z.size)) : Int)) k
  | 0 => rfl
  | k + 1 => by simp only [chN, sumI]; rw [← chN_sum z k]; omega
theorem runsA_length (t : Nat → Nat) : ∀ n, ((runsA t (n + 1)).length : Int) = 1 + sumI (fun i => (difB (t i) (t (i + 1)) : Int)) n
  | 0 => rfl
  | n + 1 => by
    have ih := runsA_length t n
    by_cases h : t (n + 1) = t n
    · rw [runsA_old (t := t) (i := n + 1) (by rw [Nat.add_sub_cancel]; exact h)]
      have e : runsA t (n + 1) = (runsC t (n + 1)).1 ++ [((runsC t (n + 1)).2 : Int)] := rfl
      rw [e] at ih
      simp only [List.length_append, List.length_singleton] at ih ⊢
      simp only [sumI]
      rw [show difB (t n) (t (n + 1)) = 0 from if_pos h.symm]
      omega
    · rw [runsA_new (t := t) (i := n + 1) (by omega) (by rw [Nat.add_sub_cancel]; exact h)]
      simp only [List.length_append, List.length_singleton, sumI]
      rw [show difB (t n) (t (n + 1)) = 1 from if_neg (fun e => h e.symm)]
      omega
theorem mod_once (m i n : Nat) (hn : 0 < n) : ((m + i) % n + 1) % n = (m + (i + 1)) % n := by
  rw [Nat.mod_add_mod, Nat.add_assoc]
theorem sum_nonneg (f : Nat → Nat) : ∀ n, 0 ≤ sumI (fun i => (f i : Int)) n
  | 0 => Int.le_refl _
  | n + 1 => by have := sum_nonneg f n; simp only [sumI]; omega
/-- How many bits differ from the next one does not depend on where a sequence begins. -/
theorem ch_rot (z : ByteArray) (m : Nat) (hm : m < z.size) : (chN z z.size : Int) = sumI (fun i => (difB (shB z m i) (shB z m (i + 1)) : Int)) z.size := by
  rw [chN_sum, ← sumI_rot _ m z.size hm]
  refine sumI_congr _ fun i _ => ?_
  unfold shB
  rw [mod_once m i z.size (by omega)]
theorem firstN_at {p : Nat → Bool} : ∀ {n : Nat}, firstN p n < n → p (firstN p n) = true
  | 0, h => by omega
  | n + 1, h => by
    by_cases e : firstN p n < n
    · have : firstN p (n + 1) = firstN p n := by simp only [firstN]; rw [if_pos e]
      rw [this]; exact firstN_at e
    · cases hp : p n with
      | true =>
        have : firstN p (n + 1) = n := by simp only [firstN]; rw [if_neg e, hp]; rfl
        rw [this]; exact hp
      | false =>
        have : firstN p (n + 1) = n + 1 := by simp only [firstN]; rw [if_neg e, hp]; rfl
        omega
theorem startN_lt (z : ByteArray) (h : 1 ≤ z.size) : startN z < z.size := by unfold startN; split <;> omega
/-- There are as many runs as bits that differ from the next one, or one run. -/
theorem rl_len {z : ByteArray} (h : 1 ≤ z.size) : (rlL z).length = max (chN z z.size) 1 := by
  have hf := firstN_le (startP z) z.size
  by_cases h0 : firstN (startP z) z.size = z.size
  · rw [rl_one h h0]
    have hz : (chN z z.size : Int) = 0 := by
      rw [chN_sum, sumI_congr (g := fun _ => 0) _ fun i hi => ?_]
      · have : ∀ n, sumI (fun _ => 0) n = 0 := fun n => by induction n with
          | zero => rfl
          | succ n ih => simp only [sumI]; rw [ih]; rfl
        exact this _
      · have hl : (i + 1) % z.size < z.size := Nat.mod_lt _ (by omega)
        have hp := firstN_none h0 _ hl
        unfold startP at hp
        have hp' : zb z ((i + 1) % z.size) = zb z (modN (((i + 1) % z.size : Nat) - 1) z.size) := by simpa using hp
        have e : modN ((((i + 1) % z.size : Nat) : Int) - 1) z.size = i := by
          by_cases e : i + 1 = z.size
          · rw [e, Nat.mod_self]
            unfold modN
            rw [show (((0 : Nat) : Int) - 1) % (z.size : Int) = (z.size : Int) - 1 by
              rw [show ((0 : Nat) : Int) - 1 = ((z.size : Int) - 1) + (z.size : Int) * (-1) by omega, Int.add_mul_emod_self_left]
              exact Int.emod_eq_of_lt (by omega) (by omega)]
            omega
          · rw [Nat.mod_eq_of_lt (by omega), show ((i + 1 : Nat) : Int) - 1 = (i : Nat) by omega, modN_of_nat, Nat.mod_eq_of_lt (by omega)]
        rw [e] at hp'
        rw [show difB (zb z i) (zb z ((i + 1) % z.size)) = 0 from if_pos hp'.symm]
        rfl
    rw [show chN z z.size = 0 by omega]
    rfl
  · have hlt : firstN (startP z) z.size < z.size := by omega
    have hm : startN z = firstN (startP z) z.size := by unfold startN; rw [if_pos hlt]
    have hst : startP z (startN z) = true := by rw [hm]; exact firstN_at hlt
    have hmn : startN z < z.size := by omega
    have hmod : modN ((startN z : Nat) : Int) z.size = startN z := by rw [modN_of_nat, Nat.mod_eq_of_lt hmn]
    obtain ⟨n, hn⟩ : ∃ n, z.size = n + 1 := ⟨z.size - 1, by omega⟩
    have hlen : ((rlL z).length : Int) = 1 + sumI (fun i => (difB (shB z (startN z) i) (shB z (startN z) (i + 1)) : Int)) n := by
      unfold rlL
      rw [srt_len, hmod, ← runsA_length, ← hn]
    have hch : (chN z z.size : Int) = sumI (fun i => (difB (shB z (startN z) i) (shB z (startN z) (i + 1)) : Int)) n + (difB (shB z (startN z) n) (shB z (startN z) (n + 1)) : Int) := by
      rw [ch_rot z (startN z) hmn, hn]; rfl
    have hd : difB (shB z (startN z) n) (shB z (startN z) (n + 1)) = 1 := by
      unfold startP at hst
      have hst' : zb z (startN z) ≠ zb z (modN ((startN z : Int) - 1) z.size) := by simpa using hst
      have e1 : shB z (startN z) (n + 1) = zb z (startN z) := by unfold shB; rw [← hn, Nat.add_mod_right, Nat.mod_eq_of_lt hmn]
      have e2 : shB z (startN z) n = zb z (modN ((startN z : Int) - 1) z.size) := by
        unfold shB modN
        congr 1
        rw [show ((startN z : Int) - 1) = ((startN z + n : Nat) : Int) + (z.size : Int) * (-1) by rw [hn]; omega, Int.add_mul_emod_self_left]
        omega
      rw [e1, e2]
      exact if_neg (fun e => hst' e.symm)
    rw [hd] at hch
    obtain ⟨s, hs⟩ : ∃ s, sumI (fun i => (difB (shB z (startN z) i) (shB z (startN z) (i + 1)) : Int)) n = s := ⟨_, rfl⟩
    have hs0 := sum_nonneg (fun i => difB (shB z (startN z) i) (shB z (startN z) (i + 1))) n
    rw [hs] at hch hlen hs0
    omega
/-- The sum of a list. -/
def lsum : List Int → Int
  | [] => 0
  | x :: l => x + lsum l
theorem lsum_app : ∀ l m, lsum (l ++ m) = lsum l + lsum m
  | [], m => by simp [lsum]
  | x :: l, m => by simp only [List.cons_append, lsum]; rw [lsum_app l m]; omega
theorem lsum_perm {l m : List Int} (h : l.Perm m) : lsum l = lsum m := by
  induction h with
  | nil => rfl
  | cons x _ ih => simp only [lsum]; rw [ih]
  | swap x y l => simp only [lsum]; omega
  | trans _ _ ih1 ih2 => rw [ih1, ih2]
theorem runsC_sum (t : Nat → Nat) : ∀ i, lsum (runsC t i).1 + ((runsC t i).2 : Int) = i
  | 0 => rfl
  | i + 1 => by
    have ih := runsC_sum t i
    simp only [runsC]
    split
    · simp only; omega
    · simp only; rw [lsum_app]; simp only [lsum]; omega
theorem runsA_sum (t : Nat → Nat) (n : Nat) (h : 0 < n) : lsum (runsA t n) = n := by
  have := runsC_sum t n
  unfold runsA
  rw [if_neg (by omega), lsum_app]
  simp only [lsum]; omega
theorem runsC_pos (t : Nat → Nat) : ∀ i, (∀ x ∈ (runsC t i).1, 1 ≤ x) ∧ (0 < i → 1 ≤ (runsC t i).2)
  | 0 => ⟨fun x hx => absurd hx (List.not_mem_nil), fun h => absurd h (Nat.lt_irrefl _)⟩
  | i + 1 => by
    obtain ⟨h1, h2⟩ := runsC_pos t i
    simp only [runsC]
    split
    · exact ⟨h1, fun _ => by simp only; omega⟩
    · next hne =>
      refine ⟨fun x hx => ?_, fun _ => Nat.le_refl _⟩
      rcases List.mem_append.1 hx with hx | hx
      · exact h1 x hx
      · rw [List.mem_singleton] at hx
        subst hx
        have := h2 (by omega)
        omega
theorem runsA_pos {t : Nat → Nat} {n : Nat} (h : 0 < n) : ∀ x ∈ runsA t n, 1 ≤ x := by
  intro x hx
  obtain ⟨h1, h2⟩ := runsC_pos t n
  unfold runsA at hx
  rw [if_neg (by omega)] at hx
  rcases List.mem_append.1 hx with hx | hx
  · exact h1 x hx
  · rw [List.mem_singleton] at hx
    subst hx
    have := h2 h
    omega
theorem lsum_LF : ∀ l : List Int, sumI (LF l) l.length = lsum l
  | [] => rfl
  | x :: l => by
    have := sumI_split (LF (x :: l)) 1 l.length
    rw [List.length_cons, Nat.add_comm l.length 1, this, lsum, ← lsum_LF l]
    congr 1
    · simp [sumI, LF]
    · refine sumI_congr _ fun i _ => ?_
      rw [Nat.add_comm 1 i]; rfl
/-- What the law asks of the runs of a sequence. -/
theorem run_facts {z : ByteArray} (h : seqB z = true) : ∃ (K : Nat) (g : Nat → Int), rlN z = K ∧ rlF z = g ∧ K = max (chN z z.size) 1 ∧ sumI g K = z.size ∧ (∀ i, i < K → 1 ≤ g i ∧ g i ≤ 255) ∧ (∀ i, i + 1 < K → g i ≤ g (i + 1)) ∧
    (∀ i, i ≤ K → 0 ≤ sumI g i ∧ sumI g i ≤ 255) ∧ crossN z z (modN 1 z.size) = (z.size : Int) - 2 * (chN z z.size : Int) ∧ chN z z.size % 2 = 0 := by
  have hs := (seqB_iff z).1 h
  have h1 : 1 ≤ z.size := hs.2.1
  have h2 : z.size ≤ 255 := hs.2.2
  have hlen := rl_len h1
  have hsum : sumI (LF (rlL z)) (rlL z).length = z.size := by
    rw [lsum_LF]
    unfold rlL
    rw [lsum_perm (srt_perm _), runsA_sum _ _ h1]
  have hpos : ∀ i, i < (rlL z).length → 1 ≤ LF (rlL z) i := fun i hi => by
    refine runsA_pos (t := shB z (modN (startN z : Nat) z.size)) h1 _ ((srt_mem _ _).1 ?_)
    rw [LF_get hi]; exact List.getElem_mem hi
  have hle : ∀ i, i ≤ (rlL z).length → 0 ≤ sumI (LF (rlL z)) i ∧ sumI (LF (rlL z)) i ≤ 255 := by
    have up : ∀ d i, i + d = (rlL z).length → 0 ≤ sumI (LF (rlL z)) i ∧ sumI (LF (rlL z)) i ≤ sumI (LF (rlL z)) (i + d) := by
      have low : ∀ i, i ≤ (rlL z).length → 0 ≤ sumI (LF (rlL z)) i := by
        intro i
        induction i with
        | zero => intro _; exact Int.le_refl _
        | succ i ih => intro hi; have := ih (by omega); have := hpos i (by omega); simp only [sumI]; omega
      intro d
      induction d with
      | zero => intro i hi; exact ⟨low i (by omega), Int.le_refl _⟩
      | succ d ih =>
        intro i hi
        have h5 := ih (i + 1) (by omega)
        have h6 := hpos i (by omega)
        have h7 := low i (by omega)
        rw [show i + 1 + d = i + (d + 1) by omega] at h5
        have hS : sumI (LF (rlL z)) (i + 1) = sumI (LF (rlL z)) i + LF (rlL z) i := rfl
        rw [hS] at h5
        exact ⟨h7, by omega⟩
    intro i hi
    obtain ⟨a, b⟩ := up ((rlL z).length - i) i (by omega)
    rw [show i + ((rlL z).length - i) = (rlL z).length by omega, hsum] at b
    exact ⟨a, by omega⟩
  have hrn : rlN z = (rlL z).length := by unfold rlN; rw [if_pos h]
  refine ⟨_, _, hrn, rfl, hlen, hsum, fun i hi => ⟨hpos i hi, ?_⟩, fun i hi => ?_, hle, ?_, ?_⟩
  · have a := hle i (by omega)
    have b := hle (i + 1) (by omega)
    simp only [sumI] at b
    show LF (rlL z) i ≤ 255
    omega
  · show LF (rlL z) i ≤ LF (rlL z) (i + 1)
    rw [LF_get hi, LF_get (Nat.lt_of_succ_lt hi)]
    exact List.pairwise_iff_getElem.1 (srt_asc _) i (i + 1) (Nat.lt_of_succ_lt hi) hi (Nat.lt_succ_self i)
  · unfold crossN
    rw [chN_sum]
    have e : ∀ n, sumI (fun i => agr (zb z i) (shB z (modN 1 z.size) i)) n = (n : Int) - 2 * sumI (fun i => (difB (zb z i) (zb z ((i + 1) % z.size)) : Int)) n := by
      intro n
      induction n with
      | zero => rfl
      | succ n ih =>
        simp only [sumI]
        rw [ih]
        have e2 : shB z (modN 1 z.size) n = zb z ((n + 1) % z.size) := by
          unfold shB
          rw [show (1 : Int) = ((1 : Nat) : Int) from rfl, modN_of_nat, Nat.mod_add_mod, Nat.add_comm]
        rw [e2]
        unfold agr difB
        split <;> omega
    exact e _
  · have e : ∃ q : Int, (chN z z.size : Int) = 2 * q := by
      have hb := okB_zb z hs.1
      have key : ∀ n, n ≤ z.size → ∃ q : Int, sumI (fun i => (difB (zb z i) (zb z ((i + 1) % z.size)) : Int)) n = sumI (fun i => (zb z i : Int) - 48) n + sumI (fun i => (zb z ((i + 1) % z.size) : Int) - 48) n - 2 * q := by
        intro n
        induction n with
        | zero => intro _; exact ⟨0, rfl⟩
        | succ n ih =>
          intro hn
          obtain ⟨q, hq⟩ := ih (by omega)
          have b1 := hb n (by omega)
          have b2 := hb ((n + 1) % z.size) (Nat.mod_lt _ (by omega))
          simp only [sumI]
          rw [hq]
          rcases b1 with b1 | b1 <;> rcases b2 with b2 | b2 <;> rw [b1, b2]
          · exact ⟨q, by simp [difB]⟩
          · exact ⟨q, by simp [difB]; omega⟩
          · exact ⟨q, by simp [difB]; omega⟩
          · exact ⟨q + 1, by simp [difB]; omega⟩
      obtain ⟨q, hq⟩ := key z.size (Nat.le_refl _)
      by_cases hz1 : z.size = 1
      · refine ⟨0, ?_⟩
        rw [hz1]
        simp [chN, hz1, difB]
      · have hr := sumI_rot (fun i => (zb z i : Int) - 48) 1 z.size (by omega)
        have hr2 : sumI (fun i => (zb z ((i + 1) % z.size) : Int) - 48) z.size = sumI (fun i => (zb z i : Int) - 48) z.size := by
          rw [← hr]; exact sumI_congr _ fun i _ => by rw [Nat.add_comm]
        rw [hr2] at hq
        exact ⟨sumI (fun i => (zb z i : Int) - 48) z.size - q, by rw [chN_sum, hq]; omega⟩
    obtain ⟨q, hq⟩ := e
    omega
end Go.Proofs.Ytkkakfkebjdkeaa
