/- SpreadBits of both sides. -/
import Derived.Test.YtpcogmpnmkmoeabSig4
import Derived.Test.YtpcogmpnmkmoeabSeqFun3
import Derived.Laws.OwnMore
namespace Go.Proofs.Ytpcogmpnmkmoeab
open Go.RowKit
set_option linter.unusedVariables false
set_option maxRecDepth 100000
theorem wpList_append_fit {w : World} {ops : Array Oper} {rest : List Oper} {o : Oper} {a : Act} {Q : Exit → Act → World → Prop} (hgd : o.guard = none) (s x : Operand)
    (ho : o.op = .call { callee := .builtin .append, args := #[s, x], argTypes := #[22, 22] }) (B g n cap : Nat) (f : Nat → Int) (hs : a.eval s = .slice (some ⟨g, 0, none⟩) n cap) (hown : OF w B (.slice (some ⟨g, 0, none⟩) n cap) n f)
    (ad c : Nat) (y : Int) (hx : a.eval x = .slice (some ⟨ad, 0, none⟩) 1 c) (hc : w.cell? ⟨ad, 0, none⟩ = some (.int .i64 y)) (hroom : n + 1 ≤ cap)
    (h : ∀ w', OF w' B (.slice (some ⟨g, 0, none⟩) (n + 1) cap) (n + 1) (fun j => if j < n then f j else y) → w.grownBy w' (some g) → wpList Try.prog ops Q rest (a.put o.dst (.slice (some ⟨g, 0, none⟩) (n + 1) cap)) w') : wpList Try.prog ops Q (o :: rest) a w := by
  obtain ⟨i0, hi, hzz⟩ := Option.map_eq_some_iff.1 ints_info
  simp only [Prod.mk.injEq] at hzz
  obtain ⟨hz, hsz, hby⟩ := hzz
  refine wpList_plain hgd fun _ hK => ?_
  obtain ⟨w', hr, h2, h3⟩ := run_append_fits (P := Try.prog) w B 22 o.type 3 i0 1 (by kernel_rfl) hi hsz g n cap _ hown ⟨ad, 0, none⟩ 1 c [.int .i64 y] rfl (by
    intro j u hj
    cases j with
    | zero => simp at hj; subst hj; exact hc
    | succ j => simp at hj) (by intro u hu; simp at hu; subst hu; rfl) hroom
  unfold Oper.wp execOp
  simp only [ho, resolve, invoke, builtin, Sem.run_bind, Sem.run_pure, Result.andThen_ok, List.map_toArray, List.map_cons, List.map_nil, hs, hx, hr]
  refine hK _ _ (h w' ?_ h3)
  unfold OF
  have e : ((List.range (n + 1)).map fun j => Value.int .i64 (if j < n then f j else y)) = ((List.range n).map fun j => Value.int .i64 (f j)) ++ [.int .i64 y] := by
    have e1 : (List.range n).map (fun j => Value.int .i64 (if j < n then f j else y)) = (List.range n).map (fun j => Value.int .i64 (f j)) := List.map_congr_left fun j hj => by rw [if_pos (List.mem_range.1 hj)]
    rw [List.range_succ, List.map_append, e1, List.map_cons, List.map_nil, if_neg (Nat.lt_irrefl n)]
  rw [e]; exact h2
theorem make_ints_cap (c : Nat) (h : c ≤ 1000000) (w : World) :
    (Instr.makeSlice 22 (.int .i64 0) (.int .i64 (c : Int))).run Try.prog w = .ok (.slice (some ⟨w.heap.size, 0, none⟩) 0 c) (w.alloc (.cells (madeCells #[.int .i64 0] c) 3)) := by
  obtain ⟨i0, hi, hzz⟩ := Option.map_eq_some_iff.1 ints_info
  simp only [Prod.mk.injEq] at hzz
  obtain ⟨hz, hsz, hby⟩ := hzz
  have hr := run_make (P := Try.prog) w 22 3 i0 (.int .i64 0) (by kernel_rfl) hi hz .i64 .i64 0 (c : Int) (by omega) (by omega) (by rw [hby]; omega) (by omega)
  simp only [Int.toNat_natCast, hsz, Nat.mul_one] at hr
  exact hr
theorem OF.made0 (w : World) (c : Nat) (f : Nat → Int) (h : c ≤ 1000000) : OF (w.alloc (.cells (madeCells #[.int .i64 0] c) 3)) w.heap.size (.slice (some ⟨w.heap.size, 0, none⟩) 0 c) 0 f := by
  refine ⟨by simp, .inr ⟨w.heap.size, c, madeCells #[.int .i64 0] c, rfl, Nat.le_refl _, ?_, Nat.zero_le _, by unfold maxLen; omega, by simp [madeCells], by simp⟩⟩
  show (w.heap.push _)[w.heap.size]? = _
  simp
theorem grown_any {w w' : World} (h : w.grownBy w' none) (row : Option Nat) : w.grownBy w' row := ⟨h.os, h.tape, h.output, h.size, fun k hk _ => h.block k hk (by simp)⟩
theorem grown_alloc (w : World) (o : Obj) (row : Option Nat) : w.grownBy (w.alloc o) row := grown_any (grown_of_below ((Below.refl w.heap.size w).alloc (Nat.le_refl _) o)) row
/-- The chips of data that is spread by a code of L bits. -/
def spF (p q : ByteArray) (L : Nat) (t : Nat) : Int := chF p (t / L) * chF q (t % L)
theorem spF_at (p q : ByteArray) (L i k : Nat) (hk : k < L) : spF p q L (i * L + k) = chF p i * chF q k := by
  unfold spF
  have e1 : (i * L + k) / L = i := by
    rw [Nat.mul_comm, Nat.mul_add_div (by omega), Nat.div_eq_of_lt hk, Nat.add_zero]
  have e2 : (i * L + k) % L = k := by
    rw [Nat.mul_comm, Nat.mul_add_mod, Nat.mod_eq_of_lt hk]
  rw [e1, e2]
theorem sp_room {i k L D P : Nat} (hP : D * L = P) (hi : i < D) (hk : k < L) : i * L + k + 1 ≤ P := by
  have h1 : (i + 1) * L ≤ D * L := Nat.mul_le_mul (by omega) (Nat.le_refl _)
  rw [Nat.add_mul, Nat.one_mul] at h1
  omega
theorem sgn_bd {a b : Int} (ha : a = 1 ∨ a = -1) (hb : b = 1 ∨ b = -1) : -1 ≤ a * b ∧ a * b ≤ 1 := by
  rcases ha with rfl | rfl <;> rcases hb with rfl | rfl <;> decide
def spOK (p q : ByteArray) : Bool := bitsB p && (seqB q && decide (p.size * q.size ≤ 3000))
theorem spOK_iff (p q : ByteArray) : spOK p q = true ↔ bitsB p = true ∧ seqB q = true ∧ p.size * q.size ≤ 3000 := by unfold spOK; simp only [Bool.and_eq_true, decide_eq_true_eq]
def spN (p q : ByteArray) : Nat := if spOK p q then p.size * q.size else 0
theorem spN_le6 (p q : ByteArray) : spN p q ≤ 1000000 := by
  unfold spN
  split
  · have := ((spOK_iff p q).1 (by assumption)).2.2; omega
  · omega
theorem sp_out {p q : ByteArray} (h : ¬ (bitsB p = true ∧ seqB q = true ∧ p.size * q.size ≤ 3000)) : spN p q = 0 ∧ spOK p q = false := by
  have : spOK p q = false := by
    cases hb : spOK p q with
    | false => rfl
    | true => exact absurd ((spOK_iff p q).1 hb) h
  exact ⟨by unfold spN; rw [this]; rfl, this⟩
theorem sp_in {p q : ByteArray} (h : bitsB p = true ∧ seqB q = true ∧ p.size * q.size ≤ 3000) : spN p q = p.size * q.size ∧ spOK p q = true := by
  have := (spOK_iff p q).2 h
  exact ⟨by unfold spN; rw [this]; rfl, this⟩
end Go.Proofs.Ytpcogmpnmkmoeab
