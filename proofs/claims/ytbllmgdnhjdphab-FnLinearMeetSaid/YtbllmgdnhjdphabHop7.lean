/- Good channels and RemapHops of both sides. -/
import Derived.Test.YtbllmgdnhjdphabHop6
import Derived.Maps.AppendAt
namespace Go.Proofs.Ytbllmgdnhjdphab
open Go.RowKit Go.Maps
set_option linter.unusedVariables false
set_option maxRecDepth 100000
/-- How many of the first c channels are good, and which. -/
def gN (m : Nat) (j : Nat → Int) : Nat → Nat
  | 0 => 0
  | c + 1 => if isJ m j (c : Int) then gN m j c else gN m j c + 1
def gF (m : Nat) (j : Nat → Int) : Nat → Nat → Int
  | 0 => fun _ => 0
  | c + 1 => if isJ m j (c : Int) then gF m j c else fun i => if i < gN m j c then gF m j c i else (c : Int)
theorem gN_le (m : Nat) (j : Nat → Int) : ∀ c, gN m j c ≤ c
  | 0 => Nat.le_refl _
  | c + 1 => by have := gN_le m j c; simp only [gN]; split <;> omega
theorem gN_bad {m : Nat} {j : Nat → Int} {c : Nat} (h : isJ m j (c : Int) = true) : gN m j (c + 1) = gN m j c ∧ gF m j (c + 1) = gF m j c := by simp only [gN, gF]; rw [if_pos h, if_pos h]; exact ⟨rfl, rfl⟩
theorem gN_good {m : Nat} {j : Nat → Int} {c : Nat} (h : isJ m j (c : Int) = false) : gN m j (c + 1) = gN m j c + 1 ∧ gF m j (c + 1) = fun i => if i < gN m j c then gF m j c i else (c : Int) := by simp only [gN, gF]; rw [h]; exact ⟨rfl, rfl⟩
theorem gF_in (m : Nat) (j : Nat → Int) : ∀ c i, i < gN m j c → 0 ≤ gF m j c i ∧ gF m j c i < c ∧ isJ m j (gF m j c i) = false
  | 0, i, h => absurd h (Nat.not_lt_zero i)
  | c + 1, i, h => by
    cases hb : isJ m j (c : Int) with
    | true =>
      obtain ⟨e1, e2⟩ := gN_bad hb
      rw [e1] at h
      have := gF_in m j c i h
      rw [e2]
      exact ⟨this.1, by omega, this.2.2⟩
    | false =>
      obtain ⟨e1, e2⟩ := gN_good hb
      rw [e1] at h
      rw [e2]
      by_cases hi : i < gN m j c
      · have := gF_in m j c i hi
        simp only [if_pos hi]
        exact ⟨this.1, by omega, this.2.2⟩
      · simp only [if_neg hi]
        exact ⟨by omega, by omega, hb⟩
def rmB (n : Nat) (z : Nat → Int) (C : Int) (m : Nat) (j : Nat → Int) : Bool := hopB n z C && (jamB m j && decide (0 < gN m j C.toNat))
theorem rmB_iff (n : Nat) (z : Nat → Int) (C : Int) (m : Nat) (j : Nat → Int) : rmB n z C m j = true ↔ hopB n z C = true ∧ jamB m j = true ∧ 0 < gN m j C.toNat := by unfold rmB; simp only [Bool.and_eq_true, decide_eq_true_eq]
def rmN (n : Nat) (z : Nat → Int) (C : Int) (m : Nat) (j : Nat → Int) : Nat := if rmB n z C m j then n else 0
def rmF (z : Nat → Int) (C : Int) (m : Nat) (j : Nat → Int) (i : Nat) : Int := if isJ m j (z i) then gF m j C.toNat ((z i).toNat % gN m j C.toNat) else z i
theorem rm_no {n : Nat} {z : Nat → Int} {C : Int} {m : Nat} {j : Nat → Int} (h : rmB n z C m j = false) : rmN n z C m j = 0 := by unfold rmN; rw [h]; rfl
theorem rmN_le6 (n : Nat) (z : Nat → Int) (C : Int) (m : Nat) (j : Nat → Int) : rmN n z C m j ≤ 1000000 := by
  unfold rmN
  split
  · rename_i h
    have := (hopB_iff _ _ _).1 ((rmB_iff _ _ _ _ _).1 h).1
    omega
  · omega
theorem rmF_bad {z : Nat → Int} {C : Int} {m : Nat} {j : Nat → Int} {i : Nat} (h : isJ m j (z i) = true) : rmF z C m j i = gF m j C.toNat ((z i).toNat % gN m j C.toNat) := by unfold rmF; rw [if_pos h]
theorem rmF_good {z : Nat → Int} {C : Int} {m : Nat} {j : Nat → Int} {i : Nat} (h : isJ m j (z i) = false) : rmF z C m j i = z i := by unfold rmF; rw [h]; rfl
theorem wpList_append_int_at {w : World} {ops : Array Oper} {rest : List Oper} {o : Oper} {a : Act} {Q : Exit → Act → World → Prop} (hgd : o.guard = none) (s x : Operand)
    (ho : o.op = .call { callee := .builtin .append, args := #[s, x], argTypes := #[22, 22] }) (B : Nat) (v : Value) (n : Nat) (f : Nat → Int) (hs : a.eval s = v) (hown : OF w B v n f)
    (ad c : Nat) (y : Int) (hx : a.eval x = .slice (some ⟨ad, 0, none⟩) 1 c) (hc : w.cell? ⟨ad, 0, none⟩ = some (.int .i64 y)) (hn : n ≤ 1000000) (hB : B ≤ w.heap.size)
    (h : ∀ v' w', OF w' B v' (n + 1) (fun j => if j < n then f j else y) → w.grownBy w' v.ownBlock → (v'.ownBlock = v.ownBlock ∨ v'.ownBlock = some w.heap.size) → wpList Try.prog ops Q rest (a.put o.dst v') w') : wpList Try.prog ops Q (o :: rest) a w := by
  obtain ⟨i0, hi, hzz⟩ := Option.map_eq_some_iff.1 ints_info
  simp only [Prod.mk.injEq] at hzz
  obtain ⟨hz, hsz, hby⟩ := hzz
  obtain ⟨v', w', hr, h1, h2, -, h3⟩ := run_append_own_at (P := Try.prog) w B 22 o.type 3 i0 (.int .i64 0) 1 8 (by kernel_rfl) hi hz hsz hby rfl (by decide) v n _ hown ⟨ad, 0, none⟩ 1 c [.int .i64 y] rfl (by
    intro j u hj
    cases j with
    | zero => simp at hj; subst hj; exact hc
    | succ j => simp at hj) (by intro u hu; simp at hu; subst hu; rfl) (by unfold maxLen; omega) (by omega) hB
  refine wpList_plain hgd fun K hK => ?_
  unfold Oper.wp execOp
  simp only [ho, resolve, invoke, builtin, Sem.run_bind, Sem.run_pure, Result.andThen_ok, List.map_toArray, List.map_cons, List.map_nil, hs, hx, hr]
  refine hK _ _ (h v' w' ?_ h2 h3)
  unfold OF
  have e : ((List.range (n + 1)).map fun j => Value.int .i64 (if j < n then f j else y)) = ((List.range n).map fun j => Value.int .i64 (f j)) ++ [.int .i64 y] := by
    have e1 : (List.range n).map (fun j => Value.int .i64 (if j < n then f j else y)) = (List.range n).map (fun j => Value.int .i64 (f j)) := List.map_congr_left fun j hj => by rw [if_pos (List.mem_range.1 hj)]
    rw [List.range_succ, List.map_append, e1, List.map_cons, List.map_nil, if_neg (Nat.lt_irrefl n)]
  rw [e]; exact h1
end Go.Proofs.Ytbllmgdnhjdphab
