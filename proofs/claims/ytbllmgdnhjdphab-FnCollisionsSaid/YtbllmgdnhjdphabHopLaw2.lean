/- The mathematics of loads and collisions: sums over channels and over shifts. -/
import Derived.Test.YtbllmgdnhjdphabHopLaw
namespace Go.Proofs.Ytbllmgdnhjdphab
open Go.RowKit
set_option linter.unusedVariables false
theorem ldC_sum (z : Nat → Int) (y : Int) : ∀ n, ldC z y n = smN (fun i => if z i = y then 1 else 0) n
  | 0 => rfl
  | n + 1 => by simp only [ldC, smN]; rw [ldC_sum z y n]
theorem ld_all {z : Nat → Int} {c : Nat} : ∀ {n : Nat}, (∀ k, k < n → 0 ≤ z k ∧ z k < c) → smN (fun q => ldC z (q : Int) n) c = n
  | 0, _ => by simp only [ldC]; exact smN_zero c
  | n + 1, h => by
    have h1 := ld_all (n := n) (fun k hk => h k (Nat.lt_succ_of_lt hk))
    have hz := h n (Nat.lt_succ_self _)
    have h2 := smN_one (n := c) (k := (z n).toNat) (by omega) 1
    have e : smN (fun q : Nat => if z n = (q : Int) then 1 else 0) c = 1 := by
      refine (smN_congr fun i _ => ?_).trans h2
      by_cases q : i = (z n).toNat
      · rw [if_pos q, if_pos (by omega)]
      · rw [if_neg q, if_neg (by omega)]
    simp only [ldC]
    rw [smN_add, h1, e]
theorem succ_mod {a b c : Nat} (ha : a < c) (hb : b < c) (h : (a + 1) % c = (b + 1) % c) : a = b := by
  by_cases h1 : a + 1 = c
  · by_cases h2 : b + 1 = c
    · omega
    · rw [h1, Nat.mod_self, Nat.mod_eq_of_lt (by omega)] at h; omega
  · by_cases h2 : b + 1 = c
    · rw [h2, Nat.mod_self, Nat.mod_eq_of_lt (by omega)] at h; omega
    · rw [Nat.mod_eq_of_lt (by omega), Nat.mod_eq_of_lt (by omega)] at h; omega
theorem ld_move {z : Nat → Int} {c j : Nat} (hj : j < c) : ∀ {n : Nat}, (∀ k, k < n → 0 ≤ z k ∧ z k < c) → ldC (mvF z c 1) (((j + 1) % c : Nat) : Int) n = ldC z (j : Int) n
  | 0, _ => rfl
  | n + 1, h => by
    simp only [ldC]
    rw [ld_move hj (n := n) (fun k hk => h k (Nat.lt_succ_of_lt hk))]
    have hz := h n (Nat.lt_succ_self _)
    obtain ⟨a, ha⟩ : ∃ a : Nat, z n = a := ⟨(z n).toNat, by omega⟩
    have e : mvF z c 1 n = (((a + 1) % c : Nat) : Int) := by
      show ((modN (z n + 1) ((c : Int)).toNat : Nat) : Int) = _
      rw [Int.toNat_natCast, ha, show (a : Int) + 1 = ((a + 1 : Nat) : Int) by omega, modN_of_nat]
    rw [e]
    congr 1
    by_cases q : z n = (j : Int)
    · rw [if_pos q, if_pos (by rw [show a = j by omega])]
    · rw [if_neg q, if_neg (fun x => q (by have := succ_mod (by omega) hj (Int.ofNat.inj x); omega))]
theorem ld_jam (z : Nat → Int) (y : Int) : ∀ n, lostC z 2 (fun _ => y) n = ldC z y n
  | 0 => rfl
  | n + 1 => by
    simp only [lostC, ldC]
    rw [ld_jam z y n]
    congr 1
    by_cases q : z n = y
    · rw [if_pos q, if_pos (isJ_yes (i := 0) (by omega) q.symm)]
    · rw [if_neg q, isJ_no fun i _ e => q e.symm]; rfl
theorem jm_two {n c : Nat} {z : Nat → Int} {j : Nat} (h : hopB n z c = true) (hj : j < c) : jmV n z 2 (fun _ => (j : Int)) = (ldC z (j : Int) n : Nat) := by
  have hc := (chB_iff c).1 (by have := (hopB_iff n z c).1 h; exact (chB_iff _).2 this.1)
  rw [jm_yes (hopB_below h) ((jamB_iff _ _).2 ⟨by omega, (hopB_iff _ _ _).2 ⟨by omega, by omega, fun k _ => by omega⟩⟩), ld_jam]
theorem ldN_yes {n : Nat} {z : Nat → Int} {c : Nat} (h : hopB n z c = true) : ldN n z c = c := by unfold ldN; rw [h]; simp
theorem ldN_no {n : Nat} {z : Nat → Int} {C : Int} (h : hopB n z C = false) : ldN n z C = 0 := by unfold ldN; rw [h]; rfl
/-- The laws of loads, at a glance. -/
theorem ld_facts {n c : Nat} {z : Nat → Int} (h : hopB n z c = true) : ldN n z c = c ∧ (1 ≤ c ∧ c ≤ 16 ∧ n ≤ 300) ∧ mvB n z c 1 = true ∧ mvN n z c 1 = n ∧ ldN n (mvF z c 1) c = c ∧
    (∀ j, j < c → jmV n z 2 (fun _ => (j : Int)) = (ldC z (j : Int) n : Nat)) ∧ (∀ j, j < c → ldF n (mvF z c 1) ((j + 1) % c) = (ldC z (j : Int) n : Nat)) ∧ smN (fun q => ldC z (q : Int) n) c = n ∧ (∀ q, ldC z q n ≤ n) := by
  obtain ⟨h1, h2, h3⟩ := (hopB_iff _ _ _).1 h
  have hm : mvB n z c 1 = true := (mvB_iff _ _ _ _).2 ⟨h, (mvD_iff _).2 (by omega)⟩
  refine ⟨ldN_yes h, ⟨by omega, by omega, h2⟩, hm, mvN_yes hm, ldN_yes (hopB_mv 1 h), fun j hj => jm_two h hj, fun j hj => ?_, ld_all h3, fun q => ldC_le z q n⟩
  show ((ldC (mvF z c 1) (((j + 1) % c : Nat) : Int) n : Nat) : Int) = _
  rw [ld_move hj h3]
theorem pair7 (w : World) (x : Int) : IntsC (w.alloc (.cells #[.int .i64 x, .int .i64 x] 3)) (.slice (some ⟨w.heap.size, 0, none⟩) 2 2) 2 (fun _ => x) := by
  refine ⟨_, 2, rfl, Nat.le_refl _, fun i hi => ⟨⟨w.heap.size, 0, none⟩, rfl, by simp, ?_⟩⟩
  rcases i with _ | _ | i
  · go_simp
  · go_simp
  · omega
theorem smN_next (f : Nat → Nat) (k : Nat) : smN f (k + 1) = smN f k + f k := rfl
theorem smN_bd {f : Nat → Nat} {X : Nat} (h : ∀ k, f k ≤ X) : ∀ n, smN f n ≤ n * X
  | 0 => Nat.zero_le _
  | n + 1 => by have := smN_bd h n; have := h n; rw [smN_next, Nat.add_mul]; omega
theorem smN_mul (f : Nat → Nat) (v : Nat) : ∀ n, smN (fun i => f i * v) n = smN f n * v
  | 0 => by simp [smN]
  | n + 1 => by simp only [smN]; rw [smN_mul f v n, Nat.add_mul]
/-- All shifts together meet as often as channels are shared. -/
theorem col_sum {n c : Nat} {f g : Nat → Int} (hf : ∀ k, k < n → 0 ≤ f k ∧ f k < c) : smN (fun s => mtC f (shF n g (s : Int)) n) n = smN (fun q => ldC f (q : Int) n * ldC g (q : Int) n) c := by
  have e1 : smN (fun s => mtC f (shF n g (s : Int)) n) n = smN (fun s => smN (fun i => if f i = g ((i + s) % n) then 1 else 0) n) n := by
    refine smN_congr fun s hs => ?_
    rw [mtC_sum]
    refine smN_congr fun i _ => ?_
    unfold shF; rw [modN_small hs]
  rw [e1, smN_swap]
  have e2 : smN (fun i => smN (fun s => if f i = g ((i + s) % n) then 1 else 0) n) n = smN (fun i => ldC g (f i) n) n := by
    refine smN_congr fun i hi => ?_
    rw [ldC_sum, ← smN_turn (fun q => if g q = f i then 1 else 0) (Nat.le_of_lt hi)]
    refine smN_congr fun s _ => ?_
    show (if f i = g ((i + s) % n) then 1 else 0) = (if g ((s + i) % n) = f i then 1 else 0)
    rw [Nat.add_comm i s]
    by_cases q : f i = g ((s + i) % n)
    · rw [if_pos q, if_pos q.symm]
    · rw [if_neg q, if_neg (fun e => q e.symm)]
  have e3 : smN (fun i => ldC g (f i) n) n = smN (fun i => smN (fun q => (if f i = ((q : Nat) : Int) then 1 else 0) * ldC g (q : Int) n) c) n := by
    refine smN_congr fun i hi => ?_
    have hz := hf i hi
    refine (smN_one (n := c) (k := (f i).toNat) (by omega) (ldC g (f i) n)).symm.trans (smN_congr fun q _ => ?_)
    by_cases e : q = (f i).toNat
    · rw [if_pos e, if_pos (by omega), Nat.one_mul, show ((q : Nat) : Int) = f i by omega]
    · rw [if_neg e, if_neg (by omega), Nat.zero_mul]
  rw [e2, e3, smN_swap]
  refine smN_congr fun q _ => ?_
  rw [smN_mul, ← ldC_sum]
/-- Exchanging both users turns the shift around. -/
theorem col_back {n : Nat} {f g : Nat → Int} (k : Int) (h : 0 < n) : mtC g (shF n f (-(k.tmod n))) n = mtC f (shF n g k) n := by
  have hK := modN_lt k n h
  have e := mt_turn f g hK
  have e0 : mtC f (shF n g ((modN k n : Nat) : Int)) n = mtC f (shF n g k) n := mtC_congr (fun _ _ => rfl) (fun j _ => shF_mod n g k j h)
  rw [← e0, e]
  refine mtC_congr (fun _ _ => rfl) (fun j _ => ?_)
  rw [shF_eq (b := ((n - modN k n : Nat) : Int))]
  have e2 : (((n - modN k n : Nat) : Int)) = (n : Int) - k % (n : Int) := by have := modN_eq k n h; omega
  rw [e2]
  unfold modN
  congr 1
  have h3 := Int.mul_tdiv_add_tmod k n
  have h4 := Int.mul_ediv_add_emod k n
  refine Int.emod_eq_emod_iff_emod_sub_eq_zero.2 (Int.emod_eq_zero_of_dvd ⟨k.tdiv n - 1 - k / n, ?_⟩)
  rw [Int.mul_sub, Int.mul_sub, Int.mul_one]
  omega
theorem mul_bd7 {a b : Nat} (ha : a ≤ 300) (hb : b ≤ 300) : a * b ≤ 90000 := Nat.mul_le_mul ha hb
/-- The laws of collisions, at a glance. -/
theorem col_facts {n : Nat} {f g : Nat → Int} {k : Int} (h1 : someB n f = true) (h2 : someB n g = true) : (0 < n ∧ n ≤ 300) ∧ ldN n f 16 = 16 ∧ ldN n g 16 = 16 ∧
    (∃ V : Nat, V ≤ n ∧ colV n n f g k = (V : Nat) ∧ colV n n g f (-(k.tmod n)) = (V : Nat)) ∧ (∀ s : Nat, colV n n f g s = (mtC f (shF n g (s : Int)) n : Nat)) ∧
    smN (fun s => mtC f (shF n g (s : Int)) n) n = smN (fun q => ldC f (q : Int) n * ldC g (q : Int) n) 16 := by
  obtain ⟨b1, b2, b3⟩ := (someB_iff _ _).1 h1
  obtain ⟨-, -, b4⟩ := (someB_iff _ _).1 h2
  refine ⟨⟨b1, b2⟩, ldN_yes (c := 16) ((hopB_iff _ _ _).2 ⟨by omega, b2, b3⟩), ldN_yes (c := 16) ((hopB_iff _ _ _).2 ⟨by omega, b2, b4⟩), ⟨_, mtC_le f (shF n g k) n, colV_yes k h1 h2, ?_⟩, fun s => colV_yes s h1 h2, col_sum (c := 16) b3⟩
  rw [colV_yes _ h2 h1, col_back k b1]
end Go.Proofs.Ytbllmgdnhjdphab
