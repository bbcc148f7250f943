/- The mathematics of the laws of chapter 7: shifts, moves, loads, sets. -/
import Derived.Test.YtbllmgdnhjdphabHopMath
import Derived.Test.YtbllmgdnhjdphabHop8
import Derived.Test.YtbllmgdnhjdphabSeqAlg
import Derived.Test.YtbllmgdnhjdphabSigMath
namespace Go.Proofs.Ytbllmgdnhjdphab
set_option linter.unusedVariables false
theorem shF_shF (n : Nat) (f : Nat → Int) (a b : Int) (i : Nat) (h : 0 < n) : shF n (shF n f a) b i = shF n f (a + b) i := by
  unfold shF
  have := modN_idx a b i n h
  rw [Nat.add_comm i (modN b n), Nat.add_comm _ (modN a n), this, Nat.add_comm]
theorem shF_eq {n : Nat} {f : Nat → Int} {a b : Int} (h : modN a n = modN b n) : shF n f a = shF n f b := by funext i; unfold shF; rw [h]
theorem shF_nought {n : Nat} {f : Nat → Int} {a : Int} (h : modN a n = 0) {i : Nat} (hi : i < n) : shF n f a i = f i := by unfold shF; rw [h, Nat.add_zero, Nat.mod_eq_of_lt hi]
theorem someB_shF {n : Nat} {f : Nat → Int} (k : Int) (h : someB n f = true) : someB n (shF n f k) = true := by
  obtain ⟨h1, h2, h3⟩ := (someB_iff _ _).1 h
  exact (someB_iff _ _).2 ⟨h1, h2, fun j _ => h3 _ (Nat.mod_lt _ h1)⟩
theorem shN_yes {n : Nat} {f : Nat → Int} (h : someB n f = true) : shN n f = n := by unfold shN; rw [h]; rfl
theorem shN_no {n : Nat} {f : Nat → Int} (h : someB n f = false) : shN n f = 0 := by unfold shN; rw [h]; rfl
theorem sh_back (n : Nat) (f : Nat → Int) (k : Int) (h : 0 < n) (j : Nat) (hj : j < n) : shF n (shF n f k) (-(k.tmod n)) j = f j := by
  rw [shF_shF _ _ _ _ _ h]
  refine shF_nought ?_ hj
  have e : k + -(k.tmod n) = (n : Int) * (k.tdiv n) := by have := Int.mul_tdiv_add_tmod k n; omega
  rw [e]
  unfold modN
  rw [Int.mul_emod_right]; rfl
theorem sh_add (n : Nat) (f : Nat → Int) (k m : Int) (h : 0 < n) : shF n f (k.tmod n + m) = shF n (shF n f k) m := by
  funext i
  rw [shF_shF _ _ _ _ _ h, shF_eq (modN_tmod_add k m n h)]
theorem mtC_all {f g : Nat → Int} : ∀ {n : Nat}, (∀ j, j < n → f j = g j) → mtC f g n = n
  | 0, _ => rfl
  | n + 1, h => by rw [mtC_yes (h n (Nat.lt_succ_self _)), mtC_all fun j hj => h j (Nat.lt_succ_of_lt hj)]
theorem mtC_none {f g : Nat → Int} : ∀ {n : Nat}, (∀ j, j < n → f j ≠ g j) → mtC f g n = 0
  | 0, _ => rfl
  | n + 1, h => by rw [mtC_no (h n (Nat.lt_succ_self _)), mtC_none fun j hj => h j (Nat.lt_succ_of_lt hj)]
theorem colV_yes {n : Nat} {f g : Nat → Int} (k : Int) (h1 : someB n f = true) (h2 : someB n g = true) : colV n n f g k = (mtC f (shF n g k) n : Nat) := by
  unfold colV
  rw [(pairHB_iff n n f g).2 ⟨h1, h2, rfl⟩]; rfl
theorem sh_meet (n : Nat) (f : Nat → Int) (k : Int) (h : someB n f = true) : colV n n (shF n f k) f (k.tmod n) = n := by
  obtain ⟨h1, h2, h3⟩ := (someB_iff _ _).1 h
  rw [colV_yes _ (someB_shF k h) h, mtC_all fun j _ => by rw [shF_eq (modN_tmod k n h1)]]
-- moves
theorem mvB_iff (n : Nat) (z : Nat → Int) (C d : Int) : mvB n z C d = true ↔ hopB n z C = true ∧ mvD d = true := by unfold mvB; simp only [Bool.and_eq_true]
theorem mvN_yes {n : Nat} {z : Nat → Int} {C d : Int} (h : mvB n z C d = true) : mvN n z C d = n := by unfold mvN; rw [h]; rfl
theorem mvF_in {z : Nat → Int} {C d : Int} (h1 : 1 ≤ C) (i : Nat) : 0 ≤ mvF z C d i ∧ mvF z C d i < C := by
  unfold mvF
  have := modN_lt (z i + d) C.toNat (by omega)
  omega
theorem hopB_mv {n : Nat} {z : Nat → Int} {C : Int} (d : Int) (h : hopB n z C = true) : hopB n (mvF z C d) C = true := by
  obtain ⟨h1, h2, h3⟩ := (hopB_iff _ _ _).1 h
  exact (hopB_iff _ _ _).2 ⟨h1, h2, fun k _ => mvF_in h1.1 k⟩
theorem mvB_back {n : Nat} {z : Nat → Int} {C d : Int} (h : mvB n z C d = true) : mvB n (mvF z C d) C (-d) = true := by
  obtain ⟨h1, h2⟩ := (mvB_iff _ _ _ _).1 h
  have := (mvD_iff d).1 h2
  exact (mvB_iff _ _ _ _).2 ⟨hopB_mv d h1, (mvD_iff _).2 (by omega)⟩
theorem mvF_back {n : Nat} {z : Nat → Int} {C d : Int} (h : hopB n z C = true) {i : Nat} (hi : i < n) : mvF (mvF z C d) C (-d) i = z i := by
  obtain ⟨h1, h2, h3⟩ := (hopB_iff _ _ _).1 h
  obtain ⟨c, rfl⟩ : ∃ c : Nat, C = c := ⟨C.toNat, by omega⟩
  have := h3 i hi
  show ((modN (((modN (z i + d) ((c : Int)).toNat : Nat) : Int) + -d) ((c : Int)).toNat : Nat) : Int) = z i
  rw [Int.toNat_natCast, modN_eq _ _ (by omega), modN_eq _ _ (by omega), Int.emod_add_emod]
  rw [show z i + d + -d = z i by omega]
  exact Int.emod_eq_of_lt (by omega) (by omega)
theorem mvF_zero {n : Nat} {z : Nat → Int} {C d : Int} (h : hopB n z C = true) (hd : d.tmod C = 0) {i : Nat} (hi : i < n) : mvF z C d i = z i := by
  obtain ⟨h1, h2, h3⟩ := (hopB_iff _ _ _).1 h
  obtain ⟨c, rfl⟩ : ∃ c : Nat, C = c := ⟨C.toNat, by omega⟩
  have := h3 i hi
  have hd2 : d % (c : Int) = 0 := Int.emod_eq_zero_of_dvd (Int.dvd_of_tmod_eq_zero hd)
  show ((modN (z i + d) ((c : Int)).toNat : Nat) : Int) = z i
  rw [Int.toNat_natCast, modN_eq _ _ (by omega), Int.add_emod, hd2, Int.add_zero, Int.emod_emod_of_dvd _ (Int.dvd_refl _)]
  exact Int.emod_eq_of_lt (by omega) (by omega)
theorem mvF_ne {n : Nat} {z : Nat → Int} {C d : Int} (h : hopB n z C = true) (hd : d.tmod C ≠ 0) {i : Nat} (hi : i < n) : z i ≠ mvF z C d i := by
  obtain ⟨h1, h2, h3⟩ := (hopB_iff _ _ _).1 h
  obtain ⟨c, rfl⟩ : ∃ c : Nat, C = c := ⟨C.toNat, by omega⟩
  have h4 := h3 i hi
  intro e
  apply hd
  have e2 : z i = ((modN (z i + d) ((c : Int)).toNat : Nat) : Int) := e
  rw [Int.toNat_natCast, modN_eq _ _ (by omega)] at e2
  have e3 : (z i + d) % (c : Int) = z i % (c : Int) := by rw [← e2]; exact (Int.emod_eq_of_lt (by omega) (by omega)).symm
  have e4 : (c : Int) ∣ (z i + d) - z i := Int.dvd_of_emod_eq_zero (Int.emod_eq_emod_iff_emod_sub_eq_zero.1 e3)
  rw [show (z i + d) - z i = d by omega] at e4
  exact Int.tmod_eq_zero_of_dvd e4
end Go.Proofs.Ytbllmgdnhjdphab
