/- Sums over the places of a list, turned around; greatest numbers. No program in sight. -/
import Derived.Test.YtbllmgdnhjdphacHop4
namespace Go.Proofs.Ytbllmgdnhjdphac
set_option linter.unusedVariables false
/-- The sum of the first n numbers. -/
def smN (f : Nat → Nat) : Nat → Nat
  | 0 => 0
  | n + 1 => smN f n + f n
theorem smN_congr {f g : Nat → Nat} : ∀ {n : Nat}, (∀ i, i < n → f i = g i) → smN f n = smN g n
  | 0, _ => rfl
  | n + 1, h => by simp only [smN]; rw [smN_congr (fun i hi => h i (by omega)), h n (by omega)]
theorem smN_split (f : Nat → Nat) (a : Nat) : ∀ b, smN f (a + b) = smN f a + smN (fun i => f (a + i)) b
  | 0 => rfl
  | b + 1 => by
    rw [show a + (b + 1) = (a + b) + 1 by omega]
    simp only [smN]
    rw [smN_split f a b]; omega
theorem smN_turn (h : Nat → Nat) {n k : Nat} (hk : k ≤ n) : smN (fun i => h ((i + k) % n)) n = smN h n := by
  by_cases hn : n = 0
  · subst hn; rfl
  · have e1 : smN (fun i => h ((i + k) % n)) ((n - k) + k) = smN (fun i => h (k + i)) (n - k) + smN h k := by
      rw [smN_split]
      congr 1
      · refine smN_congr fun i hi => ?_
        show h ((i + k) % n) = h (k + i)
        rw [Nat.mod_eq_of_lt (by omega), Nat.add_comm]
      · refine smN_congr fun i hi => ?_
        show h ((n - k + i + k) % n) = h i
        rw [show n - k + i + k = i + n by omega, Nat.add_mod_right, Nat.mod_eq_of_lt (by omega)]
    have e2 : smN h (k + (n - k)) = smN h k + smN (fun i => h (k + i)) (n - k) := smN_split h k (n - k)
    rw [show (n - k) + k = n by omega] at e1
    rw [show k + (n - k) = n by omega] at e2
    omega
theorem smN_add (f g : Nat → Nat) : ∀ n, smN (fun i => f i + g i) n = smN f n + smN g n
  | 0 => rfl
  | n + 1 => by simp only [smN]; rw [smN_add f g n]; omega
theorem smN_zero : ∀ n, smN (fun _ => 0) n = 0
  | 0 => rfl
  | n + 1 => by simp only [smN]; rw [smN_zero n]
theorem smN_swap (f : Nat → Nat → Nat) (m : Nat) : ∀ n, smN (fun i => smN (f i) m) n = smN (fun j => smN (fun i => f i j) n) m
  | 0 => by simp only [smN]; rw [smN_zero]
  | n + 1 => by
    simp only [smN]
    rw [smN_swap f m n, ← smN_add]
theorem smN_one {n k : Nat} (hk : k < n) (v : Nat) : smN (fun i => if i = k then v else 0) n = v := by
  have h0 : ∀ m, m ≤ k → smN (fun i => if i = k then v else 0) m = 0 := fun m hm => by
    rw [smN_congr (g := fun _ => 0) (fun i hi => by rw [if_neg (by omega)]), smN_zero]
  have h1 : ∀ d, smN (fun i => if i = k then v else 0) (k + 1 + d) = v := fun d => by
    induction d with
    | zero => show smN (fun i => if i = k then v else 0) k + (if k = k then v else 0) = v; rw [h0 k (Nat.le_refl _), if_pos rfl]; omega
    | succ d ih => show smN (fun i => if i = k then v else 0) (k + 1 + d) + (if k + 1 + d = k then v else 0) = v; rw [ih, if_neg (by omega)]; omega
  have := h1 (n - (k + 1))
  rwa [show k + 1 + (n - (k + 1)) = n by omega] at this
theorem smN_le {f g : Nat → Nat} : ∀ {n : Nat}, (∀ i, i < n → f i ≤ g i) → smN f n ≤ smN g n
  | 0, _ => Nat.le_refl _
  | n + 1, h => by
    have h1 := smN_le (n := n) (fun i hi => h i (by omega))
    have h2 := h n (by omega)
    simp only [smN]; omega
theorem mtC_sum (f g : Nat → Int) : ∀ n, mtC f g n = smN (fun i => if f i = g i then 1 else 0) n
  | 0 => rfl
  | n + 1 => by simp only [mtC, smN]; rw [mtC_sum f g n]
theorem modN_small {k n : Nat} (h : k < n) : modN (k : Int) n = k := by rw [modN_of_nat]; exact Nat.mod_eq_of_lt h
theorem modN_lt' (k : Int) {n : Nat} (h : 0 < n) : modN k n < n := modN_lt k n h
/-- The shift turned around. -/
theorem mt_turn (f g : Nat → Int) {n k : Nat} (hk : k < n) : mtC f (shF n g (k : Int)) n = mtC g (shF n f ((n - k : Nat) : Int)) n := by
  have hn : 0 < n := by omega
  have hK : modN (k : Int) n = k := modN_small hk
  rw [mtC_sum, mtC_sum, ← smN_turn (fun i => if g i = shF n f ((n - k : Nat) : Int) i then 1 else 0) (Nat.le_of_lt hk)]
  refine smN_congr fun i hi => ?_
  have e1 : shF n g (k : Int) i = g ((i + k) % n) := by unfold shF; rw [hK]
  have e2 : shF n f ((n - k : Nat) : Int) ((i + k) % n) = f i := by
    unfold shF
    rw [modN_of_nat, Nat.mod_add_mod, Nat.add_mod_mod, show i + k + (n - k) = i + n by omega, Nat.add_mod_right, Nat.mod_eq_of_lt hi]
  show (if f i = shF n g (k : Int) i then 1 else 0) = (if g ((i + k) % n) = shF n f ((n - k : Nat) : Int) ((i + k) % n) then 1 else 0)
  rw [e1, e2]
  by_cases h : f i = g ((i + k) % n)
  · rw [if_pos h, if_pos h.symm]
  · rw [if_neg h, if_neg (fun e => h e.symm)]
theorem shF_mod (n : Nat) (g : Nat → Int) (k : Int) (i : Nat) (hn : 0 < n) : shF n g ((modN k n : Nat) : Int) i = shF n g k i := by
  unfold shF; rw [modN_small (modN_lt k n hn)]
/-- The greatest of n numbers, 0 where there is none. -/
def mk3 (v : Nat → Nat) : Nat → Nat
  | 0 => 0
  | k + 1 => max (mk3 v k) (v k)
theorem mk3_le {v : Nat → Nat} {X : Nat} : ∀ n, mk3 v n ≤ X ↔ ∀ k, k < n → v k ≤ X
  | 0 => by simp [mk3]
  | n + 1 => by
    simp only [mk3]
    rw [Nat.max_le, mk3_le n]
    constructor
    · rintro ⟨h1, h2⟩ k hk
      by_cases e : k = n
      · subst e; exact h2
      · exact h1 k (by omega)
    · exact fun h => ⟨fun k hk => h k (by omega), h n (by omega)⟩
theorem mk3_in {v : Nat → Nat} : ∀ n, mk3 v n = 0 ∨ ∃ k, k < n ∧ mk3 v n = v k
  | 0 => .inl rfl
  | n + 1 => by
    simp only [mk3]
    rcases Nat.le_total (mk3 v n) (v n) with h | h
    · exact .inr ⟨n, Nat.lt_succ_self n, Nat.max_eq_right h⟩
    · rw [Nat.max_eq_left h]
      rcases mk3_in (v := v) n with e | ⟨k, hk, e⟩
      · exact .inl e
      · exact .inr ⟨k, by omega, e⟩
/-- The worst number of collisions: of the program's order and of the model's. -/
def wcK (F : Nat → Nat → Int) (n i j : Nat) : Nat := mk3 (fun k => mtC (F i) (shF n (F j) (k : Int)) n) n
def wcI (L : Nat) (F : Nat → Nat → Int) (n : Nat) (i : Nat) : Nat := mk3 (fun d => wcK F n i (i + 1 + d)) (L - (i + 1))
def wcS (F : Nat → Nat → Int) (n : Nat) (i : Nat) : Nat := mk3 (fun j => wcK F n i j) i
theorem wcK_le {F : Nat → Nat → Int} {n i j X : Nat} : wcK F n i j ≤ X ↔ ∀ k : Nat, k < n → mtC (F i) (shF n (F j) (k : Int)) n ≤ X := mk3_le n
theorem wcK_turn (F : Nat → Nat → Int) (n i j : Nat) : wcK F n i j = wcK F n j i := by
  have key : ∀ i j, wcK F n i j ≤ wcK F n j i := fun i j => by
    rw [wcK_le]
    intro k hk
    rw [mt_turn (F i) (F j) hk, ← mtC_congr (f := F j) (g := shF n (F i) ((modN ((n - k : Nat) : Int) n : Nat) : Int)) (fun _ _ => rfl) (fun a _ => shF_mod n (F i) _ a (by omega))]
    exact wcK_le.1 (Nat.le_refl _) _ (modN_lt _ n (by omega))
  exact Nat.le_antisymm (key i j) (key j i)
theorem wc_same (L : Nat) (F : Nat → Nat → Int) (n : Nat) : mk3 (wcI L F n) L = mk3 (wcS F n) L := by
  apply Nat.le_antisymm
  · rw [mk3_le]
    intro i hi
    unfold wcI
    rw [mk3_le]
    intro d hd
    rw [wcK_turn]
    have h1 := (mk3_le L).1 (Nat.le_refl (mk3 (wcS F n) L)) (i + 1 + d) (by omega)
    unfold wcS at h1 ⊢
    exact (mk3_le _).1 h1 i (by omega)
  · rw [mk3_le]
    intro i hi
    unfold wcS
    rw [mk3_le]
    intro j hj
    rw [wcK_turn]
    have h1 := (mk3_le L).1 (Nat.le_refl (mk3 (wcI L F n) L)) j (by omega)
    unfold wcI at h1 ⊢
    have h2 := (mk3_le _).1 h1 (i - (j + 1)) (by omega)
    rwa [show j + 1 + (i - (j + 1)) = i by omega] at h2
end Go.Proofs.Ytbllmgdnhjdphac
