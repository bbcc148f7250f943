/- Two users of a prime number of channels meet once in a period. -/
import Derived.Test.YtbllmgdnhjdphabHopLaw
namespace Go.Proofs.Ytbllmgdnhjdphab
set_option linter.unusedVariables false
set_option maxRecDepth 100000
def prP (c : Nat) : Nat → Bool
  | 0 => decide (1 < c)
  | j + 1 => prP c j && decide (0 < c % (j + 2))
def meetS (c u D k : Nat) : Nat := smN (fun i => if u * i % c = D * ((i + k) % c) % c then 1 else 0) c
def meetM (c u D k : Nat) : Nat := smN (fun i => if u * i % c = (D * i % c + k) % c then 1 else 0) c
def meetB (c : Nat) : Bool := (List.range c).all fun u => (List.range c).all fun D => decide (u = D) || (List.range c).all fun k => decide (meetS c u D k = 1) && decide (meetM c u D k = 1)
theorem meet_all : ((List.range 17).all fun c => !prP c (c - 2) || meetB c) = true := by decide +kernel
theorem meet_one {c u D k : Nat} (hc : c ≤ 16) (hp : prP c (c - 2) = true) (hu : u < c) (hD : D < c) (hne : ¬ u = D) (hk : k < c) : meetS c u D k = 1 ∧ meetM c u D k = 1 := by
  have h := List.all_eq_true.1 meet_all c (List.mem_range.2 (by omega))
  rw [hp] at h
  have h2 : meetB c = true := by simpa using h
  have h3 := List.all_eq_true.1 (List.all_eq_true.1 h2 u (List.mem_range.2 hu)) D (List.mem_range.2 hD)
  rw [decide_eq_false hne, Bool.false_or] at h3
  have h4 := List.all_eq_true.1 h3 k (List.mem_range.2 hk)
  simpa only [Bool.and_eq_true, decide_eq_true_eq] using h4
theorem lm_shift (c u D k : Nat) (hk : k < c) : mtC (linF c u) (shF c (linF c D) (k : Int)) c = meetS c u D k := by
  rw [mtC_sum]
  unfold meetS
  refine smN_congr fun i _ => ?_
  unfold shF linF
  rw [modN_small hk, Int.toNat_natCast, Int.toNat_natCast, Int.toNat_natCast]
  by_cases q : u * i % c = D * ((i + k) % c) % c
  · rw [if_pos q, if_pos (by rw [q])]
  · rw [if_neg q, if_neg (fun e => q (Int.ofNat_inj.1 e))]
theorem lm_move (c u D k : Nat) (hc : 0 < c) : mtC (linF c u) (shF c (mvF (linF c D) c k) 0) c = meetM c u D k := by
  rw [mtC_sum]
  unfold meetM
  refine smN_congr fun i hi => ?_
  rw [shF_nought (modN_zero c) hi]
  unfold mvF linF
  rw [Int.toNat_natCast, Int.toNat_natCast, Int.toNat_natCast, ← Int.natCast_add, modN_of_nat]
  by_cases q : u * i % c = (D * i % c + k) % c
  · rw [if_pos q, if_pos (by rw [q])]
  · rw [if_neg q, if_neg (fun e => q (Int.ofNat_inj.1 e))]
theorem linB_full {c u : Nat} (h1 : 1 ≤ c) (h2 : c ≤ 16) (hu : u < c) : linB c u c = true ∧ linN c u c = c := by
  have h : linB c u c = true := (linB_iff _ _ _).2 (by omega)
  exact ⟨h, by unfold linN; rw [h]; simp⟩
theorem linF_in {c u : Nat} (h1 : 1 ≤ c) (i : Nat) : 0 ≤ linF c u i ∧ linF c u i < c := by
  unfold linF
  have := Nat.mod_lt ((u : Int).toNat * i) (show 0 < (c : Int).toNat by omega)
  omega
/-- What the law of linear hops asks of two users. -/
theorem lm_facts {c u D : Nat} (h1 : 1 ≤ c) (h2 : c ≤ 16) (hu : u < c) (hD : D < c) : linB c u c = true ∧ linN c u c = c ∧ linB c D c = true ∧ linN c D c = c ∧ (∀ k : Nat, k < c → mvB c (linF c D) c k = true ∧ mvN c (linF c D) c k = c) ∧
    (prP c (c - 2) = true → ¬ u = D → ∀ k : Nat, k < c → colV c c (linF c u) (linF c D) k = 1 ∧ colV c c (linF c u) (mvF (linF c D) c k) 0 = 1) := by
  obtain ⟨a1, a2⟩ := linB_full h1 h2 hu
  obtain ⟨b1, b2⟩ := linB_full h1 h2 hD
  have hop : ∀ x, hopB c (linF c (x : Nat)) c = true := fun x => (hopB_iff _ _ _).2 ⟨by omega, by omega, fun i _ => linF_in h1 i⟩
  have som : ∀ x, someB c (linF c (x : Nat)) = true := fun x => (someB_iff _ _).2 ⟨by omega, by omega, fun i _ => by have := linF_in (u := x) h1 i; omega⟩
  have mv : ∀ k : Nat, k < c → mvB c (linF c D) c k = true := fun k hk => (mvB_iff _ _ _ _).2 ⟨hop D, (mvD_iff _).2 (by omega)⟩
  refine ⟨a1, a2, b1, b2, fun k hk => ⟨mv k hk, mvN_yes (mv k hk)⟩, fun hp hne k hk => ?_⟩
  obtain ⟨m1, m2⟩ := meet_one h2 hp hu hD hne hk
  have som2 : someB c (mvF (linF c D) c k) = true := (someB_iff _ _).2 ⟨by omega, by omega, fun i _ => by have := mvF_in (z := linF c D) (d := (k : Int)) (show (1 : Int) ≤ (c : Int) by omega) i; omega⟩
  rw [colV_yes _ (som u) (som D), colV_yes _ (som u) som2, lm_shift c u D k hk, lm_move c u D k (by omega), m1, m2]
  exact ⟨rfl, rfl⟩
end Go.Proofs.Ytbllmgdnhjdphab
