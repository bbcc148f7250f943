/- Lists made by inserting one number after the other, and sorted lists: the same. -/
import Derived.Test.YtkkakfkebjdkeaaSeqVals
import Derived.Test.YtkkakfkebjdkeaaFirstN
namespace Go.Proofs.Ytkkakfkebjdkeaa
open Go.RowKit
set_option linter.unusedVariables false
theorem insL_perm (n : Int) : ∀ l, (insL n l).Perm (n :: l)
  | [] => List.Perm.refl _
  | x :: l => by
    simp only [insL]
    split
    · exact List.Perm.refl _
    · exact (List.Perm.cons x (insL_perm n l)).trans (List.Perm.swap n x l)
theorem insL_sorted (n : Int) : ∀ l : List Int, l.Pairwise (· ≤ ·) → (insL n l).Pairwise (· ≤ ·)
  | [], _ => by simp [insL]
  | x :: l, h => by
    have h' := h
    rw [List.pairwise_cons] at h
    simp only [insL]
    split
    · next hx =>
      refine List.pairwise_cons.2 ⟨fun y hy => ?_, h'⟩
      rcases List.mem_cons.1 hy with rfl | hy
      · omega
      · have := h.1 y hy; omega
    · next hx =>
      refine List.pairwise_cons.2 ⟨fun y hy => ?_, insL_sorted n l h.2⟩
      rcases (insL_mem n y l).1 hy with rfl | hy
      · omega
      · exact h.1 y hy
theorem sorted_perm : ∀ l m : List Int, l.Pairwise (· ≤ ·) → m.Pairwise (· ≤ ·) → l.Perm m → l = m
  | [], m, _, _, h => h.nil_eq
  | x :: l, [], _, _, h => absurd h.length_eq (by simp)
  | x :: l, y :: m, h1, h2, h => by
    have h1' := List.pairwise_cons.1 h1
    have h2' := List.pairwise_cons.1 h2
    have e : x = y := by
      have a1 : x ≤ y := by
        rcases List.mem_cons.1 (h.mem_iff.2 (List.mem_cons_self ..)) with e | hy
        · omega
        · exact h1'.1 y hy
      have a2 : y ≤ x := by
        rcases List.mem_cons.1 (h.mem_iff.1 (List.mem_cons_self ..)) with e | hx
        · omega
        · exact h2'.1 x hx
      omega
    subst e
    rw [sorted_perm l m h1'.2 h2'.2 h.cons_inv]
/-- All numbers inserted, one after the other. -/
def insAll (l : List Int) : List Int := l.foldl (fun o x => insL x o) []
theorem insAll_app (l : List Int) (x : Int) : insAll (l ++ [x]) = insL x (insAll l) := by unfold insAll; rw [List.foldl_append]; rfl
theorem insAll_fold : ∀ (l o : List Int), o.Pairwise (· ≤ ·) → (l.foldl (fun o x => insL x o) o).Pairwise (· ≤ ·) ∧ (l.foldl (fun o x => insL x o) o).Perm (l ++ o)
  | [], o, h => ⟨h, List.Perm.refl _⟩
  | x :: l, o, h => by
    obtain ⟨h1, h2⟩ := insAll_fold l (insL x o) (insL_sorted x o h)
    exact ⟨h1, h2.trans ((List.Perm.append_left l (insL_perm x o)).trans List.perm_middle)⟩
theorem srt_perm (l : List Int) : (srt l).Perm l := List.mergeSort_perm l _
theorem insAll_srt (l : List Int) : insAll l = srt l := by
  obtain ⟨h1, h2⟩ := insAll_fold l [] List.Pairwise.nil
  exact sorted_perm _ _ h1 (srt_asc l) ((h2.trans (by rw [List.append_nil])).trans (srt_perm l).symm)
/-- Sorting forgets the order. -/
theorem srt_of_perm {l m : List Int} (h : l.Perm m) : srt l = srt m := sorted_perm _ _ (srt_asc l) (srt_asc m) ((srt_perm l).trans (h.trans (srt_perm m).symm))
/-- The runs of the first places: those that are over, and how long the last one is. -/
def runsC (t : Nat → Nat) : Nat → List Int × Nat
  | 0 => ([], 0)
  | i + 1 => if i = 0 ∨ t i = t (i - 1) then ((runsC t i).1, (runsC t i).2 + 1) else ((runsC t i).1 ++ [((runsC t i).2 : Int)], 1)
/-- All runs of the first places. -/
def runsA (t : Nat → Nat) (i : Nat) : List Int := if i = 0 then [] else (runsC t i).1 ++ [((runsC t i).2 : Int)]
theorem runsA_zero (t : Nat → Nat) : runsA t 0 = [] := rfl
theorem runsA_one (t : Nat → Nat) : runsA t 1 = [1] := rfl
theorem runsC_new {t : Nat → Nat} {i : Nat} (h0 : 0 < i) (h : t i ≠ t (i - 1)) : runsC t (i + 1) = (runsA t i, 1) := by
  simp only [runsC, runsA]
  rw [if_neg (by omega), if_neg (by omega)]
theorem runsC_old {t : Nat → Nat} {i : Nat} (h : i = 0 ∨ t i = t (i - 1)) : runsC t (i + 1) = ((runsC t i).1, (runsC t i).2 + 1) := by
  simp only [runsC]
  rw [if_pos h]
theorem runsA_new {t : Nat → Nat} {i : Nat} (h0 : 0 < i) (h : t i ≠ t (i - 1)) : runsA t (i + 1) = runsA t i ++ [1] := by
  rw [show runsA t (i + 1) = (runsC t (i + 1)).1 ++ [((runsC t (i + 1)).2 : Int)] from rfl, runsC_new h0 h]
  rfl
theorem runsA_old {t : Nat → Nat} {i : Nat} (h : t i = t (i - 1)) : runsA t (i + 1) = (runsC t i).1 ++ [((runsC t i).2 : Int) + 1] := by
  rw [show runsA t (i + 1) = (runsC t (i + 1)).1 ++ [((runsC t (i + 1)).2 : Int)] from rfl, runsC_old (.inr h)]
  simp
theorem runsC_bd (t : Nat → Nat) : ∀ i, (runsC t i).1.length ≤ i ∧ (runsC t i).2 ≤ i
  | 0 => ⟨Nat.le_refl _, Nat.le_refl _⟩
  | i + 1 => by
    have := runsC_bd t i
    simp only [runsC]
    split
    · constructor <;> simp <;> omega
    · constructor <;> simp <;> omega
theorem runsC_same (t : Nat → Nat) : ∀ n, (∀ i, 0 < i → i < n → t i = t (i - 1)) → runsC t n = ([], n)
  | 0, _ => rfl
  | n + 1, h => by
    have ih := runsC_same t n fun i h0 hi => h i h0 (by omega)
    rw [runsC_old (by rcases Nat.eq_zero_or_pos n with h0 | h0; exact .inl h0; exact .inr (h n h0 (by omega))), ih]
theorem runsA_same {t : Nat → Nat} {n : Nat} (h0 : 0 < n) (h : ∀ i, 0 < i → i < n → t i = t (i - 1)) : runsA t n = [(n : Int)] := by
  unfold runsA
  rw [if_neg (by omega), runsC_same t n h]
  rfl
/-- A run begins at the place. -/
def startP (z : ByteArray) (i : Nat) : Bool := zb z i != zb z (modN ((i : Int) - 1) z.size)
def startN (z : ByteArray) : Nat := if firstN (startP z) z.size < z.size then firstN (startP z) z.size else 0
set_option maxRecDepth 100000 in
theorem runStart_any (z : ByteArray) (w : World) (h1 : 1 ≤ z.size) (h2 : z.size ≤ 255) :
    Calls Try.prog 106 #[.string z] w fun e w' => e = .returned (.int .i64 (startN z : Nat)) ∧ ∃ m, w' = w.drewN m := by
  obtain ⟨S, hS⟩ : ∃ S, startN z = S := ⟨_, rfl⟩
  rw [hS]
  have HS := Lib.hid hS
  clear hS
  have HMod := Lib.hid (fun (k : Int) w => modulo_any k z.size w h1 h2)
  go_enter Try.func106, Try.ntmps106
  go_wp2
  go_loopw [6] (fun i wr => ∃ k m : Nat, k ≤ z.size ∧ i = .int .i64 k ∧ wr = w.drewN m ∧ Hid (firstN (startP z) k = k)) (fun i _ => z.size - (intOf i).toNat)
  case atStart => exact ⟨0, 0, by omega, rfl, rfl, Lib.hid rfl⟩
  case round =>
    obtain ⟨k, m, hk, rfl, rfl, rI⟩ := hrel
    by_cases hlt : k < z.size
    · obtain ⟨M, hM⟩ : ∃ M, modN ((k : Int) - 1) z.size = M := ⟨_, rfl⟩
      have hM1 : M < z.size := by rw [← hM]; exact modN_lt _ _ (by omega)
      have hC := HMod.out ((k : Int) - 1)
      rw [hM] at hC
      have HC := Lib.hid hC
      have hp : startP z k = (zb z k != zb z M) := by unfold startP; rw [hM]
      rw [← zb_at z k hlt, ← zb_at z M hM1] at hp
      have i0 : (0 : Int) ≤ (k : Int) := by omega
      have i1 : (k : Int) < (z.size : Int) := by omega
      have j0 : (0 : Int) ≤ (M : Int) := by omega
      have j1 : (M : Int) < (z.size : Int) := by omega
      have hw : IntKind.i64.wrap ((k : Int) - 1) = (k : Int) - 1 := IntWalk.i64_in _ (by omega)
      obtain ⟨W, hW⟩ : ∃ W, w.drewN m = W := ⟨_, rfl⟩
      rw [hW]
      have HW := Lib.hid hW
      clear hM hC hW
      cases hb : startP z k with
      | true =>
        have hne : z[k].toNat ≠ z[M].toNat := by rw [hb] at hp; simpa using hp.symm
        have ht : (((z[k].toNat : Nat) : Int) != ((z[M].toNat : Nat) : Int)) = true := by simp; omega
        have hsk : S = k := by rw [← HS.out]; unfold startN; rw [firstN_hit rI.out hb z.size hlt, if_pos hlt]
        subst hsk
        clear hp hb hne
        go_wp2_with fail
        go_quiet ((go_at_call 102; exact quiet_same (HC.out _)))
        go_wp2
        go_ret
        exact ⟨rfl, m + nq, by rw [← HW.out, World.drewN_drewN]⟩
      | false =>
        have he : z[k].toNat = z[M].toNat := by rw [hb] at hp; simpa using hp.symm
        have ht : (((z[k].toNat : Nat) : Int) != ((z[M].toNat : Nat) : Int)) = false := by rw [he]; simp
        have I3 := Lib.hid (firstN_step rI.out hb)
        clear hp hb he
        go_wp2_with fail
        go_quiet ((go_at_call 102; exact quiet_same (HC.out _)))
        clear hw
        go_wp2
        go_roundw
        case rel => exact ⟨k + 1, m + nq, by omega, by go_num, by rw [← HW.out, World.drewN_drewN], I3⟩
        case measure => simp [intOf]; omega
    · obtain rfl : k = z.size := by omega
      have hs0 : S = 0 := by rw [← HS.out]; unfold startN; rw [if_neg (by rw [rI.out]; omega)]
      subst hs0
      go_wp2
      go_ret
      exact ⟨rfl, m, rfl⟩
end Go.Proofs.Ytkkakfkebjdkeaa
