/- The mathematics of the laws of chapter 7: shifts, moves, loads, sets. -/
import Derived.Test.YtbllmgdnhjdphabHopMath
import Derived.Test.YtbllmgdnhjdphabHop8
import Derived.Test.YtbllmgdnhjdphabSeqAlg
import Derived.Test.YtbllmgdnhjdphabSigMath
namespace Go.Proofs.Ytbllmgdnhjdphab
set_option linter.unusedVariables false
theorem shF_shF (n : Nat) (f : Nat → Int) (a b : Int) (i : Nat) (h : 0 < n) : shF n (shF n f a) b i = shF n f (a + b) i := by
  unfold shF
  have := modN_idx a b i n h
  rw [Nat.add_comm i (modN b n), Nat.add_comm _ (modN a n), this, Nat.add_comm]
theorem shF_eq {n : Nat} {f : Nat → Int} {a b : Int} (h : modN a n = modN b n) : shF n f a = shF n f b := by funext i; unfold shF; rw [h]
theorem shF_nought {n : Nat} {f : Nat → Int} {a : Int} (h : modN a n = 0) {i : Nat} (hi : i < n) : shF n f a i = f i := by unfold shF; rw [h, Nat.add_zero, Nat.mod_eq_of_lt hi]
theorem someB_shF {n : Nat} {f : Nat → Int} (k : Int) (h : someB n f = true) : someB n (shF n f k) = true := by
  obtain ⟨h1, h2, h3⟩ := (someB_iff _ _).1 h
  exact (someB_iff _ _).2 ⟨h1, h2, fun j _ => h3 _ (Nat.mod_lt _ h1)⟩
theorem shN_yes {n : Nat} {f : Nat → Int} (h : someB n f = true) : shN n f = n := by unfold shN; rw [h]; rfl
theorem shN_no {n : Nat} {f : Nat → Int} (h : someB n f = false) : shN n f = 0 := by unfold shN; rw [h]; rfl
theorem sh_back (n : Nat) (f : Nat → Int) (k : Int) (h : 0 < n) (j : Nat) (hj : j < n) : shF n (shF n f k) (-(k.tmod n)) j = f j := by
  rw [shF_shF _ _ _ _ _ h]
  refine shF_nought ?_ hj
  have e : k + -(k.tmod n) = (n : Int) * (k.tdiv n) := by have := Int.mul_tdiv_add_tmod k n; omega
  rw [e]
  unfold modN
  rw [Int.mul_emod_right]; rfl
theorem sh_add (n : Nat) (f : Nat → Int) (k m : Int) (h : 0 < n) : shF n f (k.tmod n + m) = shF n (shF n f k) m := by
  funext i
  rw [shF_shF _ _ _ _ _ h, shF_eq (modN_tmod_add k m n h)]
theorem mtC_all {f g : Nat → Int} : ∀ {n : Nat}, (∀ j, j < n → f j = g j) → mtC f g n = n
  | 0, _ => rfl
  | n + 1, h => by rw [mtC_yes (h n (Nat.lt_succ_self _)), mtC_all fun j hj => h j (Nat.lt_succ_of_lt hj)]
theorem mtC_none {f g : Nat → Int} : ∀ {n : Nat}, (∀ j, j < n → f j ≠ g j) → mtC f g n = 0
  | 0, _ => rfl
  | n + 1, h => by rw [mtC_no (h n (Nat.lt_succ_self _)), mtC_none fun j hj => h j (Nat.lt_succ_of_lt hj)]
theorem colV_yes {n : Nat} {f g : Nat → Int} (k : Int) (h1 : someB n f = true) (h2 : someB n g = true) : colV n n f g k = (mtC f (shF n g k) n : Nat) := by
  unfold colV
  rw [(pairHB_iff n n f g).2 ⟨h1, h2, rfl⟩]; rfl
theorem sh_meet (n : Nat) (f : Nat → Int) (k : Int) (h : someB n f = true) : colV n n (shF n f k) f (k.tmod n) = n := by
  obtain ⟨h1, h2, h3⟩ := (someB_iff _ _).1 h
  rw [colV_yes _ (someB_shF k h) h, mtC_all fun j _ => by rw [shF_eq (modN_tmod k n h1)]]
-- moves
theorem mvB_iff (n : Nat) (z : Nat → Int) (C d : Int) : mvB n z C d = true ↔ hopB n z C = true ∧ mvD d = true := by unfold mvB; simp only [Bool.and_eq_true]
theorem mvN_yes {n : Nat} {z : Nat → Int} {C d : Int} (h : mvB n z C d = true) : mvN n z C d = n := by unfold mvN; rw [h]; rfl
theorem mvF_in {z : Nat → Int} {C d : Int} (h1 : 1 ≤ C) (i : Nat) : 0 ≤ mvF z C d i ∧ mvF z C d i < C := by
  unfold mvF
  have := modN_lt (z i + d) C.toNat (by omega)
  omega
theorem hopB_mv {n : Nat} {z : Nat → Int} {C : Int} (d : Int) (h : hopB n z C = true) : hopB n (mvF z C d) C = true := by
  obtain ⟨h1, h2, h3⟩ := (hopB_iff _ _ _).1 h
  exact (hopB_iff _ _ _).2 ⟨h1, h2, fun k _ => mvF_in h1.1 k⟩
theorem mvB_back {n : Nat} {z : Nat → Int} {C d : Int} (h : mvB n z C d = true) : mvB n (mvF z C d) C (-d) = true := by
  obtain ⟨h1, h2⟩ := (mvB_iff _ _ _ _).1 h
  have := (mvD_iff d).1 h2
  exact (mvB_iff _ _ _ _).2 ⟨hopB_mv d h1, (mvD_iff _).2 (by omega)⟩
theorem mvF_back {n : Nat} {z : Nat → Int} {C d : Int} (h : hopB n z C = true) {i : Nat} (hi : i < n) : mvF (mvF z C d) C (-d) i = z i := by
  obtain ⟨h1, h2, h3⟩ := (hopB_iff _ _ _).1 h
  obtain ⟨c, rfl⟩ : ∃ c : Nat, C = c := ⟨C.toNat, by omega⟩
  have := h3 i hi
  show ((modN (((modN (z i + d) ((c : Int)).toNat : Nat) : Int) + -d) ((c : Int)).toNat : Nat) : Int) = z i
  rw [Int.toNat_natCast, modN_eq _ _ (by omega), modN_eq _ _ (by omega), Int.emod_add_emod]
  rw [show z i + d + -d = z i by omega]
  exact Int.emod_eq_of_lt (by omega) (by omega)
theorem mvF_zero {n : Nat} {z : Nat → Int} {C d : Int} (h : hopB n z C = true) (hd : d.tmod C = 0) {i : Nat} (hi : i < n) : mvF z C d i = z i := by
  obtain ⟨h1, h2, h3⟩ := (hopB_iff _ _ _).1 h
  obtain ⟨c, rfl⟩ : ∃ c : Nat, C = c := ⟨C.toNat, by omega⟩
  have := h3 i hi
  have hd2 : d % (c : Int) = 0 := Int.emod_eq_zero_of_dvd (Int.dvd_of_tmod_eq_zero hd)
  show ((modN (z i + d) ((c : Int)).toNat : Nat) : Int) = z i
  rw [Int.toNat_natCast, modN_eq _ _ (by omega), Int.add_emod, hd2, Int.add_zero, Int.emod_emod_of_dvd _ (Int.dvd_refl _)]
  exact Int.emod_eq_of_lt (by omega) (by omega)
theorem mvF_ne {n : Nat} {z : Nat → Int} {C d : Int} (h : hopB n z C = true) (hd : d.tmod C ≠ 0) {i : Nat} (hi : i < n) : z i ≠ mvF z C d i := by
  obtain ⟨h1, h2, h3⟩ := (hopB_iff _ _ _).1 h
  obtain ⟨c, rfl⟩ : ∃ c : Nat, C = c := ⟨C.toNat, by omega⟩
  have h4 := h3 i hi
  intro e
  apply hd
  have e2 : z i = ((modN (z i + d) ((c : Int)).toNat : Nat) : Int) := e
  rw [Int.toNat_natCast, modN_eq _ _ (by omega)] at e2
  have e3 : (z i + d) % (c : Int) = z i % (c : Int) := by rw [← e2]; exact (Int.emod_eq_of_lt (by omega) (by omega)).symm
  have e4 : (c : Int) ∣ (z i + d) - z i := Int.dvd_of_emod_eq_zero (Int.emod_eq_emod_iff_emod_sub_eq_zero.1 e3)
  rw [show (z i + d) - z i = d by omega] at e4
  exact Int.tmod_eq_zero_of_dvd e4
-- sets
theorem jm_yes {n : Nat} {z : Nat → Int} {m : Nat} {j : Nat → Int} (h1 : hopB n z 16 = true) (h2 : jamB m j = true) : jmV n z m j = (lostC z m j n : Nat) := by unfold jmV; rw [h1, h2]; rfl
theorem jm_no {n : Nat} {z : Nat → Int} {m : Nat} {j : Nat → Int} (h : (hopB n z 16 && jamB m j) = false) : jmV n z m j = -1 := by unfold jmV; rw [h]; rfl
theorem jamB_part {m : Nat} {j : Nat → Int} (h : jamB m j = true) {k l : Nat} (hk : k + l ≤ m) : jamB l (fun i => j (k + i)) = true := by
  obtain ⟨h1, h2⟩ := (jamB_iff _ _).1 h
  obtain ⟨h3, h4, h5⟩ := (hopB_iff _ _ _).1 h2
  exact (jamB_iff _ _).2 ⟨by omega, (hopB_iff _ _ _).2 ⟨h3, by omega, fun i hi => h5 _ (by omega)⟩⟩
theorem jamB_head {m : Nat} {j : Nat → Int} (h : jamB m j = true) {k : Nat} (hk : k ≤ m) : jamB k j = true := by
  obtain ⟨h1, h2⟩ := (jamB_iff _ _).1 h
  obtain ⟨h3, h4, h5⟩ := (hopB_iff _ _ _).1 h2
  exact (jamB_iff _ _).2 ⟨by omega, (hopB_iff _ _ _).2 ⟨h3, by omega, fun i hi => h5 _ (by omega)⟩⟩
theorem lostC_mono {z : Nat → Int} {m l : Nat} {j i : Nat → Int} (h : ∀ y, isJ m j y = true → isJ l i y = true) : ∀ k, lostC z m j k ≤ lostC z l i k
  | 0 => Nat.le_refl _
  | k + 1 => by
    have := lostC_mono (z := z) h k
    simp only [lostC]
    by_cases e : isJ m j (z k) = true
    · rw [if_pos e, if_pos (h _ e)]; omega
    · rw [if_neg e]; split <;> omega
theorem lostC_two {z : Nat → Int} {m l q : Nat} {j i p : Nat → Int} (h : ∀ y, isJ m j y = true → isJ l i y = true ∨ isJ q p y = true) : ∀ k, lostC z m j k ≤ lostC z l i k + lostC z q p k
  | 0 => Nat.le_refl _
  | k + 1 => by
    have := lostC_two (z := z) h k
    simp only [lostC]
    by_cases e : isJ m j (z k) = true
    · rw [if_pos e]
      rcases h _ e with e2 | e2
      · rw [if_pos e2]; split <;> omega
      · rw [if_pos e2]; split <;> omega
    · rw [if_neg e]; split <;> split <;> omega
theorem isJ_nil (j : Nat → Int) (y : Int) : isJ 0 j y = false := rfl
theorem lostC_nil (z j : Nat → Int) : ∀ k, lostC z 0 j k = 0
  | 0 => rfl
  | k + 1 => by simp only [lostC]; rw [lostC_nil z j k, isJ_nil]; rfl
theorem isJ_split {m : Nat} {j : Nat → Int} {k : Nat} (hk : k ≤ m) (y : Int) (h : isJ m j y = true) : isJ k j y = true ∨ isJ (m - k) (fun i => j (k + i)) y = true := by
  obtain ⟨i, hi, e⟩ := (isJ_iff _ _ _).1 h
  by_cases c : i < k
  · exact .inl (isJ_yes c e)
  · exact .inr (isJ_yes (i := i - k) (by omega) (by show j (k + (i - k)) = y; rw [show k + (i - k) = i by omega]; exact e))
/-- The halves of a set, against the whole. -/
theorem jm_halves {n : Nat} {z : Nat → Int} {m : Nat} {j : Nat → Int} (h1 : hopB n z 16 = true) (h2 : jamB m j = true) {k : Nat} (hk : k ≤ m) : ∃ A B V : Nat, jmV n z m j = V ∧ lostC z m j n = V ∧ jmV n z k j = A ∧ jmV n z (m - k) (fun i => j (k + i)) = B ∧ jmV n z 0 j = 0 ∧ A ≤ V ∧ V ≤ A + B ∧ V ≤ 300 ∧ A ≤ 300 ∧ B ≤ 300 := by
  obtain ⟨-, h4, -⟩ := (hopB_iff _ _ _).1 h1
  have h0 := jm_yes h1 (jamB_head h2 (Nat.zero_le m))
  rw [lostC_nil] at h0
  refine ⟨_, _, _, jm_yes h1 h2, rfl, jm_yes h1 (jamB_head h2 hk), jm_yes h1 (jamB_part h2 (by omega)), h0, ?_, ?_, ?_, ?_, ?_⟩
  · refine lostC_mono (fun y hy => ?_) n
    obtain ⟨i, hi, e⟩ := (isJ_iff _ _ _).1 hy
    exact isJ_yes (by omega) e
  · exact lostC_two (fun y hy => isJ_split hk y hy) n
  · have := lostC_le z m j n; omega
  · have := lostC_le z k j n; omega
  · have := lostC_le z (m - k) (fun i => j (k + i)) n; omega
theorem rmN_yes {n : Nat} {z : Nat → Int} {C : Int} {m : Nat} {j : Nat → Int} (h : rmB n z C m j = true) : rmN n z C m j = n := by unfold rmN; rw [h]; rfl
theorem lostC_none {z : Nat → Int} {m : Nat} {j : Nat → Int} : ∀ {k : Nat}, (∀ i, i < k → isJ m j (z i) = false) → lostC z m j k = 0
  | 0, _ => rfl
  | k + 1, h => by rw [lostC_no (h k (Nat.lt_succ_self _)), lostC_none fun i hi => h i (Nat.lt_succ_of_lt hi)]
/-- Remapped hops: good ones, which stay as they are. -/
theorem rm_again {n : Nat} {z : Nat → Int} {C : Int} {m : Nat} {j : Nat → Int} (h : rmB n z C m j = true) :
    rmB n (rmF z C m j) C m j = true ∧ jmV n (rmF z C m j) m j = 0 ∧ hopB n (rmF z C m j) C = true ∧ (∀ i, isJ m j (z i) = false → rmF z C m j i = z i) ∧ ∀ i, i < n → rmF (rmF z C m j) C m j i = rmF z C m j i := by
  obtain ⟨h1, h2, h3⟩ := (rmB_iff _ _ _ _ _).1 h
  obtain ⟨h4, h5, h6⟩ := (hopB_iff _ _ _).1 h1
  have hg : ∀ i, i < n → isJ m j (rmF z C m j i) = false ∧ 0 ≤ rmF z C m j i ∧ rmF z C m j i < C := by
    intro i hi
    cases e : isJ m j (z i) with
    | true =>
      rw [rmF_bad e]
      have := gF_in m j C.toNat ((z i).toNat % gN m j C.toNat) (Nat.mod_lt _ h3)
      exact ⟨this.2.2, this.1, by omega⟩
    | false =>
      rw [rmF_good e]
      exact ⟨e, h6 i hi⟩
  have hh : hopB n (rmF z C m j) C = true := (hopB_iff _ _ _).2 ⟨h4, h5, fun k hk => (hg k hk).2⟩
  refine ⟨(rmB_iff _ _ _ _ _).2 ⟨hh, h2, h3⟩, ?_, hh, fun i e => rmF_good e, fun i hi => rmF_good (hg i hi).1⟩
  rw [jm_yes (hopB_below hh) h2, lostC_none fun i hi => (hg i hi).1]; rfl
end Go.Proofs.Ytbllmgdnhjdphab
