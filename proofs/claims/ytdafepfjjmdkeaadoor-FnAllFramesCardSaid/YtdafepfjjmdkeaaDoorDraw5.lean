/- Contracts of the draws of sequences: bits of a register of the model, drawn bits, maximal taps. Contracts of the draws of sequences: drawn bits, one of a list of texts, digits, maximal taps. Contracts of the draws of sequences: maximal taps of the model, a drawn sequence. Contracts of the draws of sequences: one of some texts, digits, a sequence, one that is sometimes none, a shift, two sequences. -/
import Derived.Test.YtdafepfjjmdkeaaDoorTapOf
import Derived.Test.YtdafepfjjmdkeaaDoorDraw2
import Derived.Test.YtdafepfjjmdkeaaDoorRegWalk
import Derived.Test.YtdafepfjjmdkeaaDoorSeqTurn
import Derived.Test.YtdafepfjjmdkeaaDoorSeqTable
import Derived.Test.YtdafepfjjmdkeaaDoorSRun
import Derived.Deep.RegionWith
namespace Go.Proofs.YtdafepfjjmdkeaaDoor
open Go.RowKit
set_option linter.unusedVariables false
/-- What drawing a string leaves. -/
def StrPost (M b p : Nat) (zs : List Int) (w : World) (e : Ending) (w' : World) : Prop :=
  ∃ (z : ByteArray) (q : Nat), e = .returned (.string z) ∧ 1 ≤ z.size + (if M = 0 then 1 else 0) ∧ z.size ≤ M ∧ q ≤ p + 100 ∧ RdAt w' b q zs ∧ w.grownBy w' (some b)
/-- A string that the reader gave, perhaps empty. -/
def StrPost0 (M b p : Nat) (zs : List Int) (w : World) (e : Ending) (w' : World) : Prop :=
  ∃ (z : ByteArray) (q : Nat), e = .returned (.string z) ∧ z.size ≤ M ∧ q ≤ p + 100 ∧ RdAt w' b q zs ∧ w.grownBy w' (some b)
end Go.Proofs.YtdafepfjjmdkeaaDoor
namespace Go.Proofs.YtdafepfjjmdkeaaDoor
open Go.RowKit
set_option linter.unusedVariables false
/-- A slice of n bytes of the call's own. -/
def OB (w : World) (B : Nat) (v : Value) (n : Nat) : Prop := ∃ l : List Nat, l.length = n ∧ w.ownsRow B 5 1 v n (l.map fun x => Value.int .u8 (x : Nat))
theorem OB.kept {w w' : World} {B : Nat} {v : Value} {n : Nat} {row : Option Nat} (h : OB w B v n) (hg : w.grownBy w' row) (hne : v.ownBlock = none ∨ v.ownBlock ≠ row) : OB w' B v n := by
  obtain ⟨l, hl, h⟩ := h; exact ⟨l, hl, World.ownsRow.kept h hg hne⟩
theorem OB.alloc {w : World} {B : Nat} {v : Value} {n : Nat} (h : OB w B v n) (o : Obj) : OB (w.alloc o) B v n := by
  obtain ⟨l, hl, h⟩ := h; exact ⟨l, hl, World.ownsRow.alloc h o⟩
theorem OB.lt {w : World} {B : Nat} {v : Value} {n : Nat} (h : OB w B v n) : ∀ k, v.ownBlock = some k → B ≤ k ∧ k < w.heap.size := by
  obtain ⟨l, hl, h⟩ := h; exact World.ownsRow.lt h
theorem OB.str {w : World} {B : Nat} {v : Value} {n : Nat} (h : OB w B v n) : ∃ z : ByteArray, z.size = n ∧ (convert 31 9 v).run Tryd.prog w = .ok (.string z) w := by
  obtain ⟨l, hl, h⟩ := h
  have hc := fun g hg => World.ownsRow.cells h (g := g) hg
  obtain ⟨h1, ⟨rfl, rfl⟩ | ⟨g, cap, cur, rfl, hB, hg, hn, hm, hs, ht⟩⟩ := h
  · exact ⟨ByteArray.empty, rfl, run_convert_bytes_nil w 31 5 (by kernel_rfl) (by kernel_rfl) 0 0 9 (by kernel_rfl)⟩
  · refine ⟨_, ?_, run_convert_bytes_arg w 31 5 (by kernel_rfl) (by kernel_rfl) g 0 n cap (l.map fun x => ((x : Nat) : Int)) (by simp [hl]) (fun i hi => ?_) 9 (by kernel_rfl)⟩
    · rw [strOfNums_size]; simp [hl]
    · have hil : i < l.length := by omega
      have := hc g rfl i (.int .u8 (l[i] : Nat)) (by simp [List.getElem?_eq_getElem hil])
      have e : (⟨g, 0, none⟩ : Addr).add i = ⟨g, 0 + i, none⟩ := by unfold Addr.add; split <;> simp_all
      rw [e] at this
      rw [this]
      simp [List.getD_eq_getElem?_getD, List.getElem?_eq_getElem hil]
theorem bytes_info : (Tryd.prog.info? 5).map (fun i => (i.zero, i.size, i.bytes)) = some (some (.int .u8 0), 1, 1) := by kernel_rfl
theorem make_own_bytes (m : Nat) (hm : m ≤ 1000) (w : World) :
    (Instr.makeSlice 31 (.int .i64 0) (.int .i64 (m : Int))).run Tryd.prog w = .ok (.slice (some ⟨w.heap.size, 0, none⟩) 0 m) (w.alloc (.cells (madeCells #[.int .u8 0] m) 5)) := by
  obtain ⟨i0, hi, hzz⟩ := Option.map_eq_some_iff.1 bytes_info
  simp only [Prod.mk.injEq] at hzz
  obtain ⟨hz, hsz, hby⟩ := hzz
  have := run_make (P := Tryd.prog) w 31 5 i0 (.int .u8 0) (by kernel_rfl) hi hz .i64 .i64 0 m (Int.le_refl _) (by omega) (by rw [hby]; omega) (by omega)
  simpa [hsz, Value.cells] using this
theorem OB.made (m : Nat) (hm : m ≤ 1000) (w : World) : OB (w.alloc (.cells (madeCells #[.int .u8 0] m) 5)) w.heap.size (.slice (some ⟨w.heap.size, 0, none⟩) 0 m) 0 :=
  ⟨[], rfl, World.ownsRow_made w _ m (Nat.le_refl _) (by unfold maxLen; omega) (by simp [madeCells])⟩
theorem wpList_append_byte {w : World} {ops : Array Oper} {rest : List Oper} {o : Oper} {a : Act} {Q : Exit → Act → World → Prop} (hgd : o.guard = none) (s x : Operand)
    (ho : o.op = .call { callee := .builtin .append, args := #[s, x], argTypes := #[31, 31] }) (B : Nat) (v : Value) (n : Nat) (hs : a.eval s = v) (hown : OB w B v n)
    (ad c y : Nat) (hx : a.eval x = .slice (some ⟨ad, 0, none⟩) 1 c) (hc : w.cell? ⟨ad, 0, none⟩ = some (.int .u8 (y : Nat))) (hn : n ≤ 1000000) (hB : B ≤ w.heap.size)
    (h : ∀ v' w', OB w' B v' (n + 1) → w.grownBy w' v.ownBlock → wpList Tryd.prog ops Q rest (a.put o.dst v') w') : wpList Tryd.prog ops Q (o :: rest) a w := by
  obtain ⟨i0, hi, hzz⟩ := Option.map_eq_some_iff.1 bytes_info
  simp only [Prod.mk.injEq] at hzz
  obtain ⟨hz, hsz, hby⟩ := hzz
  obtain ⟨l, hl, hown⟩ := hown
  refine wpList_append_own w hgd s x 31 ho B 5 i0 (.int .u8 0) 1 1 (by kernel_rfl) hi hz hsz hby rfl (by decide) v n _ hs hown ⟨ad, 0, none⟩ 1 c [.int .u8 (y : Nat)] hx rfl ?_ ?_ ?_ ?_ hB ?_
  · intro j u hj
    cases j with
    | zero => simp at hj; subst hj; exact hc
    | succ j => simp at hj
  · intro u hu; simp at hu; subst hu; rfl
  · unfold maxLen; omega
  · omega
  · intro v' w' h1 h2 _
    exact h v' w' ⟨l ++ [y], by simp [hl], by rw [List.map_append]; exact h1⟩ h2
theorem grown_own {w w1 w2 : World} {b : Nat} {row : Option Nat} (h : w.grownBy w1 (some b)) (k : w1.grownBy w2 row) (hr : ∀ j, row = some j → w.heap.size ≤ j) : w.grownBy w2 (some b) :=
  h.andThen k (fun j e => .inl (hr j e))
set_option maxRecDepth 100000 in
theorem l1String_any (b p m : Nat) (zs : List Int) (w : World) (hr : RdAt w b p zs) (hp : p ≤ 900000) (hm : m ≤ 90) :
    Calls Tryd.prog 54 #[.pointer (some ⟨b, 0, none⟩), .int .i64 m] w (StrPost0 m b p zs w) := by
  have hmk := make_own_bytes m (by omega)
  have hbl := hr.1
  have hr0 := hr.alloc (.cells (madeCells #[.int .u8 0] m) 5)
  have hO := OB.made m (by omega) w
  have hg0 := World.grownBy_alloc w (.cells (madeCells #[.int .u8 0] m) 5) (some b)
  go_enter Tryd.func54, Tryd.ntmps54
  go_wp2_with fail
  have hm1 : (m : Int) + 1 = ((m + 1 : Nat) : Int) := by omega
  rw [hm1]
  clear hm1 hmk
  refine (pick_any b p (m + 1) zs _ hr0 (by omega) (by omega) (by omega)).mono ?_
  rintro e w1 ⟨k, hk, rfl, hr1, hg1⟩
  have hO1 := hO.kept hg1 (.inr (by simp [Value.ownBlock]; omega))
  have hg1' := hg0.trans hg1
  have hz1 : w.heap.size < w1.heap.size := by have := hg1.size; simp at this; omega
  clear hr hr0 hO hg0 hg1
  go_wp2
  go_loopw [5, 6] (fun v i wr => ∃ j n : Nat, n + j ≤ m ∧ i = .int .i64 j ∧ OB wr w.heap.size v n ∧ RdAt wr b (p + 1 + n) zs ∧ w.grownBy wr (some b)) (fun _ i _ => (intOf i).toNat)
  case atStart => exact ⟨k, 0, by omega, rfl, hO1, hr1, hg1'⟩
  case round =>
    obtain ⟨j, n, hjn, rfl, rO, rR, rg⟩ := hrel
    clear hO1 hr1 hg1' hz1
    by_cases h0 : 0 < j
    · go_wp2_with fail
      refine (pick_any b (p + 1 + n) 2 zs _ rR (by omega) (by omega) (by omega)).mono ?_
      rintro e w2 ⟨k2, hk2, rfl, hr2, hg2⟩
      have hO2 := rO.kept hg2 (by
        cases hv : u5.ownBlock with
        | none => exact .inl rfl
        | some q => right; intro e; cases e; have := (rO.lt _ hv).1; omega)
      have hgg := rg.trans hg2
      have hsz : w.heap.size ≤ w2.heap.size := hgg.size
      have u1 : IntKind.u8.wrap (48 + (k2 : Int)) = ((48 + k2 : Nat) : Int) := by rw [show (48 : Int) + (k2 : Int) = ((48 + k2 : Nat) : Int) by omega]; exact IntWalk.u8_in _ (by omega)
      clear rO rR rg hg2
      go_wp2_with (at_builtin; refine wpList_append_byte rfl _ _ rfl w.heap.size _ n rfl (hO2.alloc _) w2.heap.size 1 (48 + k2) rfl ?c1 ?c2 ?c3 ?_; rotate_left 3; intro v' w' O3 g3)
      case c1 => simp
      case c2 => omega
      case c3 => simp; omega
      have hr3 : RdAt w' b (p + 1 + n + 1) zs := (hr2.alloc _).kept g3 (fun q hq => by have := (hO2.lt q hq).1; omega)
      have hg3 : w.grownBy w' (some b) := grown_own (hgg.trans (World.grownBy_alloc w2 _ (some b))) g3 (fun q hq => (hO2.lt q hq).1)
      clear hO2 hr2 hgg g3 u1
      go_wp2
      go_roundw
      case rel => exact ⟨j - 1, n + 1, by omega, by rw [show ((j - 1 : Nat) : Int) = (j : Int) - 1 by omega], O3, hr3, hg3⟩
      case measure => simp [intOf]; omega
    · obtain rfl : j = 0 := by omega
      obtain ⟨z, hz, hst⟩ := rO.str
      go_wp2
      go_ret
      exact ⟨z, p + 1 + n, rfl, by omega, by omega, rR, rg⟩
end Go.Proofs.YtdafepfjjmdkeaaDoor
namespace Go.Proofs.YtdafepfjjmdkeaaDoor
open Go.RowKit
set_option linter.unusedVariables false
/-- Maximal taps of a size: at least one, and all are taps. -/
def TapsPost (s : Nat) (w : World) (e : Ending) (w' : World) : Prop :=
  ∃ (v : Value) (n : Nat) (f : Nat → Int), e = .returned v ∧ OF w' w.heap.size v n f ∧ 1 ≤ n ∧ n ≤ 300 ∧ (∀ j, j < n → ∃ t : Nat, f j = t ∧ RegN s t 1) ∧ Below w.heap.size w w'
end Go.Proofs.YtdafepfjjmdkeaaDoor
namespace Go.Proofs.YtdafepfjjmdkeaaDoor
open Go.RowKit
set_option linter.unusedVariables false
/-- A row of texts, none longer than M. -/
def TxtAt (w : World) (L n M : Nat) : Prop := L < w.heap.size ∧ ∀ i, i < n → ∃ z : ByteArray, w.cell? ⟨L, i, none⟩ = some (.string z) ∧ z.size ≤ M
set_option maxRecDepth 100000 in
theorem of_any (b p L n M : Nat) (zs : List Int) (w : World) (hr : RdAt w b p zs) (hx : TxtAt w L n M) (hLb : b < L) (hp : p ≤ 1000000) (h1 : 1 ≤ n) (h2 : n ≤ 1000) :
    Calls Tryd.prog 56 #[.pointer (some ⟨b, 0, none⟩), .slice (some ⟨L, 0, none⟩) n n] w (StrPost0 M b p zs w) := by
  go_enter Tryd.func56, Tryd.ntmps56
  go_wp2_with fail
  refine (pick_any b p n zs _ hr hp h1 (by omega)).mono ?_
  rintro e w1 ⟨k, hk, rfl, hr1, hg⟩
  obtain ⟨z, hz, hzM⟩ := hx.2 k hk
  have hc : w1.cell? ⟨L, k, none⟩ = some (.string z) := hg.cell hz (by simp; omega)
  clear hx hz
  go_wp2
  go_ret
  exact ⟨z, p + 1, rfl, hzM, by omega, hr1, hg⟩
set_option maxRecDepth 100000 in
theorem l9Dec_digit (n : Nat) (w : World) (hn : n ≤ 9) : Calls Tryd.prog 68 #[.int .i64 n] w fun e w' => (∃ z : ByteArray, e = .returned (.string z) ∧ z.size = 1) ∧ Below w.heap.size w w' := by
  obtain ⟨V, hV⟩ : ∃ V, 48 + n = V := ⟨_, rfl⟩
  have v1 : (48 : Int) + (n : Int) = (V : Int) := by omega
  have v2 : IntKind.u8.wrap (V : Int) = (V : Int) := IntWalk.u8_in _ (by omega)
  have hB : Bytes (w.alloc (.cells #[.int .u8 (V : Nat)] 5)) w.heap.size 5 1 (fun _ => V) := World.rowIs_alloc w #[.int .u8 (V : Nat)] 5 _ (fun i hi => by
    obtain rfl : i = 0 := by simp at hi; omega
    rfl)
  have hst := fun cap => hB.str (P := Tryd.prog) 31 5 9 (by kernel_rfl) (by kernel_rfl) (by kernel_rfl) 0 1 cap (by omega)
  obtain ⟨y, hy⟩ : ∃ y, strF 1 (fun _ => V) = y := ⟨_, rfl⟩
  have hys : y.size = 1 := by rw [← hy]; exact strF_size _ _
  rw [hy] at hst
  have HY := Lib.hid hys
  have hy2 : y.size + ByteArray.size ⟨#[]⟩ ≤ 9223372036854775807 := by rw [hys]; decide
  clear hy hB hys hV
  go_enter Tryd.func68, Tryd.ntmps68
  go_wp2
  go_loop [0, 3] (fun i s => i = .int .i64 n ∧ s = .string ⟨#[]⟩) (fun i _ => (intOf i).toNat)
  case atStart => exact ⟨rfl, rfl⟩
  case round =>
    obtain ⟨rfl, rfl⟩ := hrel
    go_wp2
    go_ret
    exact ⟨⟨_, rfl, by rw [ByteArray.size_append, HY.out]; rfl⟩, (Below.refl _ _).alloc (Nat.le_refl _) _⟩
/-- What drawing a sequence leaves. -/
def SeqPost (b p : Nat) (zs : List Int) (w : World) (e : Ending) (w' : World) : Prop :=
  ∃ (z : ByteArray) (q : Nat), e = .returned (.string z) ∧ 1 ≤ z.size ∧ z.size ≤ 40 ∧ q ≤ p + 200 ∧ RdAt w' b q zs ∧ w.grownBy w' (some b)
end Go.Proofs.YtdafepfjjmdkeaaDoor
