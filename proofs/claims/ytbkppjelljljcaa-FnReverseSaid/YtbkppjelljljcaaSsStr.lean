/- The laws' own strings: ssTurned, ssXor. -/
import Derived.Test.YtbkppjelljljcaaSeqRev
import Derived.Test.YtbkppjelljljcaaInts
import Derived.Laws.OwnMore
import Derived.Deep.RegionLaw
namespace Go.Proofs.Ytbkppjelljljcaa
open Go.RowKit
set_option linter.unusedVariables false
set_option maxRecDepth 100000
/-- A slice of n bytes of the call's own: element j is f j. -/
def BO (w : World) (B : Nat) (v : Value) (n : Nat) (f : Nat → Nat) : Prop := w.ownsRow B 5 1 v n ((List.range n).map fun j => Value.int .u8 (f j : Nat))
theorem BO.congr {w : World} {B : Nat} {v : Value} {n : Nat} {f g : Nat → Nat} (h : BO w B v n f) (e : ∀ j, j < n → f j = g j) : BO w B v n g := by
  have : ((List.range n).map fun j => Value.int .u8 (f j : Nat)) = (List.range n).map fun j => Value.int .u8 (g j : Nat) := List.map_congr_left fun j hj => by rw [e j (List.mem_range.1 hj)]
  unfold BO at h ⊢
  rw [← this]; exact h
theorem BO.alloc {w : World} {B : Nat} {v : Value} {n : Nat} {f : Nat → Nat} (h : BO w B v n f) (o : Obj) : BO (w.alloc o) B v n f := World.ownsRow.alloc h o
theorem BO.drew {w : World} {B : Nat} {v : Value} {n : Nat} {f : Nat → Nat} (h : BO w B v n f) : BO w.drew B v n f := World.ownsRow.kept h (grown_of_below (⟨rfl, rfl, rfl, Nat.le_refl _, fun _ _ => rfl⟩)) (by cases v.ownBlock <;> simp)
theorem bytes_own_info : (Try.prog.info? 5).map (fun i => (i.zero, i.size, i.bytes)) = some (some (.int .u8 0), 1, 1) := by kernel_rfl
theorem make_bytes_cap (c : Nat) (h : c ≤ 1048576) (w : World) :
    (Instr.makeSlice 30 (.int .i64 0) (.int .i64 (c : Int))).run Try.prog w = .ok (.slice (some ⟨w.heap.size, 0, none⟩) 0 c) (w.alloc (.cells (madeCells #[.int .u8 0] c) 5)) := by
  obtain ⟨i0, hi, hzz⟩ := Option.map_eq_some_iff.1 bytes_own_info
  simp only [Prod.mk.injEq] at hzz
  obtain ⟨hz, hsz, hby⟩ := hzz
  have hr := run_make (P := Try.prog) w 30 5 i0 (.int .u8 0) (by kernel_rfl) hi hz .i64 .i64 0 (c : Int) (by omega) (by omega) (by rw [hby]; omega) (by omega)
  simp only [Int.toNat_natCast, hsz, Nat.mul_one] at hr
  exact hr
theorem BO.made0 (w : World) (c : Nat) (f : Nat → Nat) (h : c ≤ 1048576) : BO (w.alloc (.cells (madeCells #[.int .u8 0] c) 5)) w.heap.size (.slice (some ⟨w.heap.size, 0, none⟩) 0 c) 0 f := by
  refine ⟨by simp, .inr ⟨w.heap.size, c, madeCells #[.int .u8 0] c, rfl, Nat.le_refl _, ?_, Nat.zero_le _, by unfold maxLen; omega, by simp [madeCells], by simp⟩⟩
  show (w.heap.push _)[w.heap.size]? = _
  simp
theorem wpList_append_bfit {w : World} {ops : Array Oper} {rest : List Oper} {o : Oper} {a : Act} {Q : Exit → Act → World → Prop} (hgd : o.guard = none) (s x : Operand)
    (ho : o.op = .call { callee := .builtin .append, args := #[s, x], argTypes := #[30, 30] }) (B g n cap : Nat) (f : Nat → Nat) (hs : a.eval s = .slice (some ⟨g, 0, none⟩) n cap) (hown : BO w B (.slice (some ⟨g, 0, none⟩) n cap) n f)
    (ad c : Nat) (y : Nat) (hx : a.eval x = .slice (some ⟨ad, 0, none⟩) 1 c) (hc : w.cell? ⟨ad, 0, none⟩ = some (.int .u8 (y : Nat))) (hroom : n + 1 ≤ cap)
    (h : ∀ w', BO w' B (.slice (some ⟨g, 0, none⟩) (n + 1) cap) (n + 1) (fun j => if j < n then f j else y) → w.grownBy w' (some g) → wpList Try.prog ops Q rest (a.put o.dst (.slice (some ⟨g, 0, none⟩) (n + 1) cap)) w') : wpList Try.prog ops Q (o :: rest) a w := by
  obtain ⟨i0, hi, hzz⟩ := Option.map_eq_some_iff.1 bytes_own_info
  simp only [Prod.mk.injEq] at hzz
  obtain ⟨hz, hsz, hby⟩ := hzz
  refine wpList_plain hgd fun _ hK => ?_
  obtain ⟨w', hr, h2, h3⟩ := run_append_fits (P := Try.prog) w B 30 o.type 5 i0 1 (by kernel_rfl) hi hsz g n cap _ hown ⟨ad, 0, none⟩ 1 c [.int .u8 (y : Nat)] rfl (by
    intro j u hj
    cases j with
    | zero => simp at hj; subst hj; exact hc
    | succ j => simp at hj) (by intro u hu; simp at hu; subst hu; rfl) hroom
  unfold Oper.wp execOp
  simp only [ho, resolve, invoke, builtin, Sem.run_bind, Sem.run_pure, Result.andThen_ok, List.map_toArray, List.map_cons, List.map_nil, hs, hx, hr]
  refine hK _ _ (h w' ?_ h3)
  unfold BO
  have e : ((List.range (n + 1)).map fun j => Value.int .u8 ((if j < n then f j else y : Nat) : Int)) = ((List.range n).map fun j => Value.int .u8 (f j : Nat)) ++ [.int .u8 (y : Nat)] := by
    have e1 : (List.range n).map (fun j => Value.int .u8 ((if j < n then f j else y : Nat) : Int)) = (List.range n).map (fun j => Value.int .u8 (f j : Nat)) := List.map_congr_left fun j hj => by rw [if_pos (List.mem_range.1 hj)]
    rw [List.range_succ, List.map_append, e1, List.map_cons, List.map_nil, if_neg (Nat.lt_irrefl n)]
  rw [e]; exact h2
theorem step_append_bfit {w : World} {ops : Array Oper} {o : Oper} {a : Act} {K : Act → World → Prop} {Q : Exit → Act → World → Prop} {E : Prop} (hgd : o.guard = none) (s x : Operand)
    (ho : o.op = .call { callee := .builtin .append, args := #[s, x], argTypes := #[30, 30] }) (B g n cap : Nat) (f : Nat → Nat) (hs : a.eval s = .slice (some ⟨g, 0, none⟩) n cap) (hown : BO w B (.slice (some ⟨g, 0, none⟩) n cap) n f)
    (ad c : Nat) (y : Nat) (hx : a.eval x = .slice (some ⟨ad, 0, none⟩) 1 c) (hc : w.cell? ⟨ad, 0, none⟩ = some (.int .u8 (y : Nat))) (hroom : n + 1 ≤ cap)
    (h : ∀ w', BO w' B (.slice (some ⟨g, 0, none⟩) (n + 1) cap) (n + 1) (fun j => if j < n then f j else y) → w.grownBy w' (some g) → K (a.put o.dst (.slice (some ⟨g, 0, none⟩) (n + 1) cap)) w') :
    if Region.wanted o (yielded ops a.tmps) = true then Oper.wp Try.prog o a w K Q else E := by
  have hw : Region.wanted o (yielded ops a.tmps) = true := by simp [Region.wanted, hgd]
  rw [if_pos hw]
  obtain ⟨i0, hi, hzz⟩ := Option.map_eq_some_iff.1 bytes_own_info
  simp only [Prod.mk.injEq] at hzz
  obtain ⟨hz, hsz, hby⟩ := hzz
  obtain ⟨w', hr, h2, h3⟩ := run_append_fits (P := Try.prog) w B 30 o.type 5 i0 1 (by kernel_rfl) hi hsz g n cap _ hown ⟨ad, 0, none⟩ 1 c [.int .u8 (y : Nat)] rfl (by
    intro j u hj
    cases j with
    | zero => simp at hj; subst hj; exact hc
    | succ j => simp at hj) (by intro u hu; simp at hu; subst hu; rfl) hroom
  unfold Oper.wp execOp
  simp only [ho, resolve, invoke, builtin, Sem.run_bind, Sem.run_pure, Result.andThen_ok, List.map_toArray, List.map_cons, List.map_nil, hs, hx, hr]
  refine h w' ?_ h3
  unfold BO
  have e : ((List.range (n + 1)).map fun j => Value.int .u8 ((if j < n then f j else y : Nat) : Int)) = ((List.range n).map fun j => Value.int .u8 (f j : Nat)) ++ [.int .u8 (y : Nat)] := by
    have e1 : (List.range n).map (fun j => Value.int .u8 ((if j < n then f j else y : Nat) : Int)) = (List.range n).map (fun j => Value.int .u8 (f j : Nat)) := List.map_congr_left fun j hj => by rw [if_pos (List.mem_range.1 hj)]
    rw [List.range_succ, List.map_append, e1, List.map_cons, List.map_nil, if_neg (Nat.lt_irrefl n)]
  rw [e]; exact h2
/-- A full slice of bytes is its block. -/
theorem BO.full {w : World} {B g n : Nat} {f : Nat → Nat} (h : BO w B (.slice (some ⟨g, 0, none⟩) n n) n f) : Bytes w g 5 n f := by
  obtain ⟨h1, ⟨h2, _⟩ | ⟨g', cap', cur, h2, hB, hg, hn, hm, hs, ht⟩⟩ := h
  · cases h2
  · injection h2 with h3 _ h4
    injection h3 with h3
    injection h3 with h3
    subst h3 h4
    refine ⟨cur, hg, by simpa using hs, fun i hi => ?_⟩
    rw [Nat.mul_one, List.take_of_length_le (by rw [Array.length_toList]; omega)] at ht
    rw [← Array.getElem?_toList, ht]
    simp [hi]
theorem BO.kept {w w' : World} {B : Nat} {v : Value} {n : Nat} {f : Nat → Nat} {row : Option Nat} (h : BO w B v n f) (hg : w.grownBy w' row) (hne : v.ownBlock = none ∨ v.ownBlock ≠ row) : BO w' B v n f := World.ownsRow.kept h hg hne
theorem BO.text {w : World} {B g n cap : Nat} {f : Nat → Nat} (h : BO w B (.slice (some ⟨g, 0, none⟩) n cap) n f) : (convert 30 9 (.slice (some ⟨g, 0, none⟩) n cap)).run Try.prog w = .ok (.string (strF n f)) w := by
  have := run_convert_bytes_arg (P := Try.prog) w 30 5 (by kernel_rfl) (by kernel_rfl) g 0 n cap ((List.range n).map fun i => ((f i : Nat) : Int)) (by simp) (fun i hi => by
    rw [Nat.zero_add, World.ownsRow.cellAt h i (by omega)]
    simp [List.getD_eq_getElem?_getD, hi]) 9 (by kernel_rfl)
  rw [this]
  congr 1
  unfold strOfNums strF
  simp [List.map_map, Function.comp_def]
set_option maxRecDepth 100000 in
theorem ssTurned_any (z : ByteArray) (w : World) (hn : z.size ≤ 1048576) :
    Calls Try.prog 20 #[.string z] w fun e w' => e = .returned (.string (revS z)) ∧ Below w.heap.size w w' := by
  have hmk := make_bytes_cap z.size hn
  have O0 := BO.made0 w z.size (fun j => zb z (z.size - 1 - j)) hn
  have b0 := (Below.refl w.heap.size w).alloc (Nat.le_refl _) (.cells (madeCells #[.int .u8 0] z.size) 5)
  go_enter Try.func20, Try.ntmps20
  go_wp2
  go_loopw [3, 4] (fun v i wr => ∃ k : Nat, k ≤ z.size ∧ i = .int .i64 ((z.size : Int) - 1 - (k : Int)) ∧ v = .slice (some ⟨w.heap.size, 0, none⟩) k z.size ∧ BO wr w.heap.size (.slice (some ⟨w.heap.size, 0, none⟩) k z.size) k (fun j => zb z (z.size - 1 - j)) ∧ Below w.heap.size w wr) (fun _ i _ => (intOf i + 1).toNat)
  case atStart => exact ⟨0, by omega, by simp, rfl, O0, b0⟩
  case round =>
    obtain ⟨k, hk, rfl, rfl, rO, rb⟩ := hrel
    clear hmk O0 b0
    by_cases hlt : k < z.size
    · obtain ⟨Q, hQ⟩ : ∃ Q, z.size - 1 - k = Q := ⟨_, rfl⟩
      have p4 : Q < z.size := by omega
      have p1 : (z.size : Int) - 1 - (k : Int) = (Q : Int) := by omega
      have p2 : (z.size : Int) - 1 - ((k + 1 : Nat) : Int) = (Q : Int) - 1 := by omega
      have HQ := Lib.hid p2
      rw [p1]
      have i2 : (0 : Int) ≤ (Q : Int) := by omega
      have i3 : (Q : Int) < (z.size : Int) := by omega
      have HZ := Lib.hid (show z[Q].toNat = zb z (z.size - 1 - k) by rw [hQ, zb_at z Q p4])
      clear p1 p2 hQ
      go_wp2_with (at_builtin; refine wpList_append_bfit rfl (.tmp 15) (.tmp 19) rfl w.heap.size w.heap.size k z.size _ rfl (rO.alloc _) wr.heap.size 1 (z[Q].toNat) rfl (by simp) (by omega) ?_; intro w' O3 g3)
      have O4 := Lib.hid (O3.congr (g := fun j => zb z (z.size - 1 - j)) (fun j hj => by
        by_cases e : j < k
        · rw [if_pos e]
        · rw [if_neg e, HZ.out, show j = k by omega]))
      have hsz := rb.size
      have nb : Hid (Below w.heap.size w w') := Lib.hid ((rb.alloc hsz _).grown g3 (by simp; omega) (fun q hq => by cases hq; exact Nat.le_refl _))
      clear O3 g3 rO rb hsz
      go_wp2
      go_roundw
      case rel => exact ⟨k + 1, by omega, by rw [HQ.out], rfl, O4.out, nb.out⟩
      case measure => simp [intOf]
    · obtain rfl : z.size = k := by omega
      have rB := rO.full
      have hst := fun cap => rB.str (P := Try.prog) 30 5 9 (by kernel_rfl) (by kernel_rfl) (by kernel_rfl) 0 z.size cap (by omega)
      obtain ⟨y, hy⟩ : ∃ y, strF z.size (fun i => zb z (z.size - 1 - (0 + i))) = y := ⟨_, rfl⟩
      rw [hy] at hst
      have HY : Hid (y = revS z) := Lib.hid (by rw [← hy]; exact strF_congr fun i hi => by simp)
      have i4 : ¬ (0 : Int) ≤ (z.size : Int) - 1 - (z.size : Int) := by omega
      clear hy rB rO
      go_wp2
      go_ret
      exact ⟨ret_str HY.out, rb⟩
end Go.Proofs.Ytbkppjelljljcaa
