/- Plain mathematics: the runs of a sequence in reverse order are its runs. -/
import Derived.Test.YtkkakfkebjdkeaaRunMath
namespace Go.Proofs.Ytkkakfkebjdkeaa
set_option linter.unusedVariables false
def incH : List Nat → List Nat
  | [] => []
  | a :: l => (a + 1) :: l
def incL (l : List Nat) : List Nat := (incH l.reverse).reverse
/-- The lengths of the runs of a list. -/
def rl : List Nat → List Nat
  | [] => []
  | [_] => [1]
  | x :: y :: r => if x = y then incH (rl (y :: r)) else 1 :: rl (y :: r)
theorem incH_ne {l : List Nat} (h : l ≠ []) : incH l ≠ [] := by cases l with
  | nil => exact absurd rfl h
  | cons a l => simp [incH]
theorem rl_ne : ∀ x l, rl (x :: l) ≠ []
  | x, [] => by simp [rl]
  | x, y :: r => by
    simp only [rl]
    split
    · exact incH_ne (rl_ne y r)
    · simp
theorem incL_snoc (l : List Nat) (a : Nat) : incL (l ++ [a]) = l ++ [a + 1] := by simp [incL, incH]
theorem incH_app {l : List Nat} (h : l ≠ []) (m : List Nat) : incH (l ++ m) = incH l ++ m := by cases l with
  | nil => exact absurd rfl h
  | cons a l => rfl
theorem incL_cons {l : List Nat} (h : l ≠ []) (a : Nat) : incL (a :: l) = a :: incL l := by
  unfold incL
  rw [List.reverse_cons, incH_app (by simpa using h), List.reverse_append]; rfl
theorem incL_incH {l : List Nat} (h : l ≠ []) : incL (incH l) = incH (incL l) := by
  cases l with
  | nil => exact absurd rfl h
  | cons a m =>
    by_cases hm : m = []
    · subst hm; rfl
    · rw [incL_cons hm]
      show incL ((a + 1) :: m) = (a + 1) :: incL m
      exact incL_cons hm _
theorem incL_rev (l : List Nat) : incL l.reverse = (incH l).reverse := by simp [incL]
theorem snoc_form (w : List Nat) (y : Nat) : ∃ b t, w ++ [y] = b :: t := by
  cases w with
  | nil => exact ⟨y, [], rfl⟩
  | cons a w => exact ⟨a, w ++ [y], rfl⟩
theorem rl_snoc (y x : Nat) : ∀ w, rl ((w ++ [y]) ++ [x]) = if y = x then incL (rl (w ++ [y])) else rl (w ++ [y]) ++ [1]
  | [] => by
    show rl [y, x] = _
    simp only [rl, List.nil_append]
    split <;> rfl
  | a :: w => by
    have ih := rl_snoc y x w
    obtain ⟨b, t, e⟩ := snoc_form w y
    have hne : rl (b :: t) ≠ [] := rl_ne b t
    rw [List.cons_append, List.cons_append, e]
    rw [e] at ih
    rw [List.cons_append] at ih ⊢
    simp only [rl]
    rw [ih]
    by_cases h1 : y = x
    · rw [if_pos h1, if_pos h1]
      by_cases h2 : a = b
      · rw [if_pos h2, if_pos h2, incL_incH hne]
      · rw [if_neg h2, if_neg h2, incL_cons hne]
    · rw [if_neg h1, if_neg h1]
      by_cases h2 : a = b
      · rw [if_pos h2, if_pos h2, incH_app hne]
      · rw [if_neg h2, if_neg h2]; rfl
theorem rl_rev : ∀ l, rl l.reverse = (rl l).reverse
  | [] => rfl
  | [x] => rfl
  | x :: y :: r => by
    have ih := rl_rev (y :: r)
    rw [List.reverse_cons, List.reverse_cons, rl_snoc y x r.reverse, ← List.reverse_cons, ih]
    simp only [rl]
    by_cases h : x = y
    · rw [if_pos h, if_pos h.symm, incL_rev]
    · rw [if_neg h, if_neg (fun e => h e.symm)]; simp
theorem rl_app {a b : Nat} (h : a ≠ b) (v : List Nat) : ∀ u, rl ((u ++ [a]) ++ (b :: v)) = rl (u ++ [a]) ++ rl (b :: v)
  | [] => by
    show rl (a :: b :: v) = _
    simp only [rl]
    rw [if_neg h]; rfl
  | c :: u => by
    have ih := rl_app h v u
    obtain ⟨d, t, e⟩ := snoc_form u a
    have hne : rl (d :: t) ≠ [] := rl_ne d t
    rw [List.cons_append, List.cons_append, e]
    rw [e] at ih
    rw [List.cons_append] at ih ⊢
    rw [show rl (c :: d :: (t ++ b :: v)) = if c = d then incH (rl (d :: (t ++ b :: v))) else 1 :: rl (d :: (t ++ b :: v)) from rfl, ih,
      show rl (c :: d :: t) = if c = d then incH (rl (d :: t)) else 1 :: rl (d :: t) from rfl]
    by_cases h2 : c = d
    · rw [if_pos h2, if_pos h2, incH_app hne]
    · rw [if_neg h2, if_neg h2]; rfl
theorem map_last {M : List Nat} (hM : M ≠ []) {X : List Int} {k : Int} (h : M.map (fun (x : Nat) => (x : Int)) = X ++ [k]) : (incL M).map (fun (x : Nat) => (x : Int)) = X ++ [k + 1] := by
  obtain ⟨M', a, rfl⟩ : ∃ M' a, M = M' ++ [a] := ⟨M.dropLast, M.getLast hM, (List.dropLast_concat_getLast hM).symm⟩
  rw [List.map_append, List.map_singleton] at h
  obtain ⟨e1, e2⟩ := List.append_inj' h rfl
  injection e2 with e2 _
  rw [incL_snoc, List.map_append, e1, ← e2]; rfl
theorem rl_runs (t : Nat → Nat) : ∀ n, (rl ((List.range (n + 1)).map t)).map (fun (x : Nat) => (x : Int)) = runsA t (n + 1)
  | 0 => rfl
  | n + 1 => by
    have ih := rl_runs t n
    have e1 : (List.range (n + 1)).map t = (List.range n).map t ++ [t n] := by rw [List.range_succ, List.map_append]; rfl
    have e2 : (List.range (n + 1 + 1)).map t = ((List.range n).map t ++ [t n]) ++ [t (n + 1)] := by rw [List.range_succ, List.map_append, e1]; rfl
    have hne : rl ((List.range n).map t ++ [t n]) ≠ [] := by obtain ⟨b, r, e⟩ := snoc_form ((List.range n).map t) (t n); rw [e]; exact rl_ne b r
    rw [e1] at ih
    rw [e2, rl_snoc]
    by_cases h : t n = t (n + 1)
    · rw [if_pos h, runsA_old (t := t) (i := n + 1) (by rw [Nat.add_sub_cancel]; exact h.symm)]
      exact map_last hne ih
    · rw [if_neg h, runsA_new (t := t) (i := n + 1) (by omega) (by rw [Nat.add_sub_cancel]; exact fun e => h e.symm), ← ih, List.map_append]; rfl
/-- The bits from a place on, around. -/
def rotL (z : ByteArray) (m n : Nat) : List Nat := (List.range n).map (shB z m)
theorem rotL_split (z : ByteArray) (m d n : Nat) : rotL z m (d + n) = rotL z m d ++ rotL z (m + d) n := by
  unfold rotL
  rw [List.range_add, List.map_append, List.map_map]
  congr 1
  refine List.map_congr_left fun i _ => ?_
  show shB z m (d + i) = shB z (m + d) i
  unfold shB
  rw [Nat.add_assoc]
theorem shB_mod (z : ByteArray) (m i : Nat) : shB z (m % z.size) i = shB z m i := by unfold shB; rw [Nat.mod_add_mod]
theorem rotL_mod (z : ByteArray) (m n : Nat) : rotL z (m % z.size) n = rotL z m n := List.map_congr_left fun i _ => shB_mod z m i
/-- A run begins at the place, told without negative numbers. -/
theorem start_iff (z : ByteArray) (i : Nat) (h : i < z.size) : startP z i = true ↔ zb z i ≠ zb z ((i + z.size - 1) % z.size) := by
  unfold startP modN
  have e : (((i : Int) - 1) % (z.size : Int)).toNat = (i + z.size - 1) % z.size := by
    rw [show (i : Int) - 1 = ((i + z.size - 1 : Nat) : Int) + (z.size : Int) * (-1) by omega, Int.add_mul_emod_self_left]
    omega
  rw [e]; simp
theorem rot_runs (z : ByteArray) (a b : Nat) (ha : a < z.size) (hb : b < z.size) (sa : startP z a = true) (sb : startP z b = true) : (rl (rotL z a z.size)).Perm (rl (rotL z b z.size)) := by
  have key : ∀ a b, a < b → b < z.size → startP z a = true → startP z b = true → (rl (rotL z a z.size)).Perm (rl (rotL z b z.size)) := by
    intro a b hab hb sa sb
    obtain ⟨d, hd⟩ : ∃ d, b = a + (d + 1) := ⟨b - a - 1, by omega⟩
    obtain ⟨n, hn⟩ : ∃ n, z.size = (d + 1) + (n + 1) := ⟨z.size - d - 2, by omega⟩
    have s1 : rotL z a z.size = rotL z a (d + 1) ++ rotL z b (n + 1) := by rw [hn, rotL_split, hd]
    have s2 : rotL z b z.size = rotL z b (n + 1) ++ rotL z a (d + 1) := by
      rw [show z.size = (n + 1) + (d + 1) by omega, rotL_split]
      congr 1
      rw [← rotL_mod z (b + (n + 1)), show b + (n + 1) = a + z.size by omega, Nat.add_mod_right, Nat.mod_eq_of_lt (by omega)]
    have u1 : rotL z a (d + 1) = rotL z a d ++ [shB z a d] := by unfold rotL; rw [List.range_succ, List.map_append]; rfl
    have u2 : rotL z b (n + 1) = rotL z b n ++ [shB z b n] := by unfold rotL; rw [List.range_succ, List.map_append]; rfl
    have v1 : rotL z a (d + 1) = zb z a :: rotL z (a + 1) d := by rw [Nat.add_comm d 1, rotL_split]; unfold rotL shB; simp [Nat.mod_eq_of_lt (show a < z.size by omega)]
    have v2 : rotL z b (n + 1) = zb z b :: rotL z (b + 1) n := by rw [Nat.add_comm n 1, rotL_split]; unfold rotL shB; simp [Nat.mod_eq_of_lt hb]
    have x1 := (start_iff z b hb).1 sb
    have x2 := (start_iff z a (by omega)).1 sa
    have y1 : shB z a d ≠ zb z b := by
      unfold shB
      intro e
      refine x1 ?_
      rw [← e, show b + z.size - 1 = (a + d) + z.size by omega, Nat.add_mod_right]
    have y2 : shB z b n ≠ zb z a := by
      unfold shB
      intro e
      refine x2 ?_
      rw [← e, show b + n = a + z.size - 1 by omega]
    have r1 : rl (rotL z a z.size) = rl (rotL z a (d + 1)) ++ rl (rotL z b (n + 1)) := by rw [s1, u1, v2, rl_app y1]
    have r2 : rl (rotL z b z.size) = rl (rotL z b (n + 1)) ++ rl (rotL z a (d + 1)) := by rw [s2, u2, v1, rl_app y2]
    rw [r1, r2]
    exact List.perm_append_comm
  rcases Nat.lt_trichotomy a b with h | h | h
  · exact key a b h hb sa sb
  · subst h; exact List.Perm.refl _
  · exact (key b a h ha sb sa).symm
theorem rev_index (n m i : Nat) (hm : m < n) (hi : i < n) : n - 1 - (m + (n - 1 - i)) % n = ((n - m) % n + i) % n := by
  by_cases h : m ≤ i
  · rw [Nat.mod_eq_of_lt (show m + (n - 1 - i) < n by omega), Nat.mod_add_mod, show n - m + i = (i - m) + n by omega, Nat.add_mod_right, Nat.mod_eq_of_lt (by omega)]
    omega
  · rw [show m + (n - 1 - i) = (m - 1 - i) + n by omega, Nat.add_mod_right, Nat.mod_eq_of_lt (by omega), Nat.mod_add_mod, Nat.mod_eq_of_lt (by omega)]
    omega
theorem rot_rev (z : ByteArray) (m : Nat) (hm : m < z.size) : (rotL (revS z) m z.size).reverse = rotL z ((z.size - m) % z.size) z.size := by
  refine List.ext_getElem (by simp [rotL]) fun i h1 h2 => ?_
  have hi : i < z.size := by simpa [rotL] using h2
  rw [List.getElem_reverse]
  simp only [rotL, List.getElem_map, List.getElem_range, List.length_map, List.length_range]
  unfold shB
  rw [revS_size, zb_revS _ _ (Nat.mod_lt _ (by omega)), rev_index _ _ _ hm hi]
theorem start_rev (z : ByteArray) (m : Nat) (hm : m < z.size) (h : startP (revS z) m = true) : startP z ((z.size - m) % z.size) = true := by
  have hx := (start_iff (revS z) m (by rw [revS_size]; exact hm)).1 h
  have hl : (z.size - m) % z.size < z.size := Nat.mod_lt _ (by omega)
  refine (start_iff z _ hl).2 fun e => hx ?_
  rw [revS_size, zb_revS _ _ hm, zb_revS _ _ (Nat.mod_lt _ (by omega))]
  by_cases h0 : m = 0
  · subst h0
    rw [Nat.sub_zero, Nat.mod_self, Nat.zero_add, Nat.mod_eq_of_lt (show z.size - 1 < z.size by omega)] at e
    rw [Nat.zero_add, Nat.mod_eq_of_lt (show z.size - 1 < z.size by omega), Nat.sub_zero, show z.size - 1 - (z.size - 1) = 0 by omega]
    exact e.symm
  · rw [Nat.mod_eq_of_lt (show z.size - m < z.size by omega), show z.size - m + z.size - 1 = (z.size - m - 1) + z.size by omega, Nat.add_mod_right, Nat.mod_eq_of_lt (by omega)] at e
    rw [show m + z.size - 1 = (m - 1) + z.size by omega, Nat.add_mod_right, Nat.mod_eq_of_lt (show m - 1 < z.size by omega), show z.size - 1 - (m - 1) = z.size - m by omega, show z.size - 1 - m = z.size - m - 1 by omega]
    exact e.symm
theorem rlL_rot {z : ByteArray} (h : 1 ≤ z.size) (m : Nat) (hm : modN ((startN z : Nat) : Int) z.size = m) : rlL z = srt ((rl (rotL z m z.size)).map (fun (x : Nat) => (x : Int))) := by
  unfold rlL
  rw [hm]
  obtain ⟨n, hn⟩ : ∃ n, z.size = n + 1 := ⟨z.size - 1, by omega⟩
  unfold rotL
  rw [hn, rl_runs]
theorem starts_none {z : ByteArray} (h : 1 ≤ z.size) (h0 : firstN (startP z) z.size = z.size) : firstN (startP (revS z)) (revS z).size = (revS z).size := by
  have hle := firstN_le (startP (revS z)) (revS z).size
  refine Classical.byContradiction fun hn => ?_
  have hlt : firstN (startP (revS z)) (revS z).size < (revS z).size := by omega
  have hs := firstN_at hlt
  have := start_rev z _ (by rw [revS_size] at hlt ⊢; exact hlt) hs
  rw [firstN_none h0 _ (Nat.mod_lt _ (by omega))] at this; cases this
/-- The runs of a sequence in reverse order are its runs. -/
theorem rlL_rev {z : ByteArray} (h : 1 ≤ z.size) : rlL (revS z) = rlL z := by
  have hr : (revS z).size = z.size := revS_size z
  by_cases h0 : firstN (startP z) z.size = z.size
  · rw [rl_one h h0, rl_one (by omega) (starts_none h h0), hr]
  · have hlt : firstN (startP z) z.size < z.size := by have := firstN_le (startP z) z.size; omega
    have hlt' : firstN (startP (revS z)) (revS z).size < (revS z).size := by
      have hle := firstN_le (startP (revS z)) (revS z).size
      refine Classical.byContradiction fun hn => h0 ?_
      have := starts_none (z := revS z) (by omega) (by omega)
      rw [revS_revS] at this; exact this
    have e1 : startN z = firstN (startP z) z.size := by unfold startN; rw [if_pos hlt]
    have e2 : startN (revS z) = firstN (startP (revS z)) (revS z).size := by unfold startN; rw [if_pos hlt']
    have s1 : startP z (startN z) = true := by rw [e1]; exact firstN_at hlt
    have s2 : startP (revS z) (startN (revS z)) = true := by rw [e2]; exact firstN_at hlt'
    have l1 : startN z < z.size := by omega
    have l2 : startN (revS z) < z.size := by omega
    have m1 : modN ((startN z : Nat) : Int) z.size = startN z := by rw [modN_of_nat, Nat.mod_eq_of_lt l1]
    have m2 : modN ((startN (revS z) : Nat) : Int) (revS z).size = startN (revS z) := by rw [modN_of_nat, Nat.mod_eq_of_lt (by omega)]
    rw [rlL_rot h _ m1, rlL_rot (by omega) _ m2, hr]
    refine srt_of_perm (List.Perm.map _ ?_)
    have p1 : (rl (rotL (revS z) (startN (revS z)) z.size)).Perm (rl (rotL z ((z.size - startN (revS z)) % z.size) z.size)) := by
      rw [← rot_rev z _ l2, rl_rev]
      exact (List.reverse_perm _).symm
    exact p1.trans (rot_runs z _ _ (Nat.mod_lt _ (by omega)) l1 (start_rev z _ l2 s2) s1)
/-- A shift turns around. -/
theorem rev_shift (z : ByteArray) (k : Int) (h : 1 ≤ z.size) : revS (shift z k) = shift (revS z) (-k) := by
  refine ba_ext (by rw [revS_size, shift_size, shift_size, revS_size]) fun i hi => ?_
  rw [revS_size, shift_size] at hi
  rw [zb_revS _ _ (by rw [shift_size]; exact hi), shift_size, zb_shift _ _ _ (by omega), zb_shift _ _ _ (by rw [revS_size]; exact hi), revS_size, zb_revS _ _ (Nat.mod_lt _ (by omega))]
  congr 1
  have b1 := modN_lt k z.size (by omega)
  have e1 := modN_eq k z.size (by omega)
  have e2 : modN (-k) z.size = (z.size - modN k z.size) % z.size := by
    have h1 : (-k) % (z.size : Int) = (((z.size - modN k z.size : Nat) : Int)) % (z.size : Int) := by
      have hk := Int.mul_ediv_add_emod k z.size
      rw [← e1] at hk
      rw [show -k = ((z.size - modN k z.size : Nat) : Int) + (z.size : Int) * (-(k / (z.size : Int)) - 1) by
        rw [Int.mul_sub, Int.mul_neg]; omega, Int.add_mul_emod_self_left]
    unfold modN at h1 ⊢
    rw [h1]; omega
  rw [e2, ← rev_index z.size (modN k z.size) i b1 hi]
  have h2 := Nat.mod_lt (modN k z.size + (z.size - 1 - i)) (show 0 < z.size by omega)
  omega
theorem cross_rev (z : ByteArray) (k : Nat) (hk : k < z.size) : crossN (revS z) (revS z) k = crossN z z k := by
  unfold crossN
  rw [revS_size]
  rw [← sumI_rot (fun i => agr (zb z i) (shB z k i)) ((z.size - k) % z.size) z.size (Nat.mod_lt _ (by omega)), ← sumI_rev]
  refine sumI_congr _ fun i hi => ?_
  have hj : z.size - 1 - i < z.size := by omega
  unfold shB
  rw [revS_size, zb_revS _ _ hj, zb_revS _ _ (Nat.mod_lt _ (by omega)), rev_index z.size k i hk hi]
  have e2 : (k + ((z.size - k) % z.size + i) % z.size) % z.size = z.size - 1 - (z.size - 1 - i) := by
    rw [Nat.add_mod_mod, ← Nat.add_assoc]
    by_cases h0 : k = 0
    · subst h0
      rw [Nat.sub_zero, Nat.mod_self, Nat.zero_add, Nat.mod_eq_of_lt hi]; omega
    · rw [Nat.mod_eq_of_lt (show z.size - k < z.size by omega), show k + (z.size - k) + i = i + z.size by omega, Nat.add_mod_right, Nat.mod_eq_of_lt hi]; omega
  rw [e2]
  exact agr_comm _ _
theorem leastP_rev (z : ByteArray) (h : 1 ≤ z.size) : leastP (revS z) = leastP z := by
  have key : ∀ y : ByteArray, 1 ≤ y.size → leastP (revS y) ≤ leastP y := by
    intro y hy
    refine Classical.byContradiction fun hn => ?_
    obtain ⟨b1, b2⟩ := leastP_bd y hy
    refine leastP_no (revS y) (leastP y) b1 (by omega) ?_
    have e := leastP_yes y hy
    have e2 := rev_shift (revS y) (leastP y : Nat) (by rw [revS_size]; exact hy)
    rw [revS_revS] at e2
    have e3 : shift y (-((leastP y : Nat) : Int)) = y := shift_undo e
    rw [e3] at e2
    rw [← revS_revS (shift (revS y) ((leastP y : Nat) : Int)), e2]
  have h1 := key z h
  have h2 := key (revS z) (by rw [revS_size]; exact h)
  rw [revS_revS] at h2
  omega
end Go.Proofs.Ytkkakfkebjdkeaa
