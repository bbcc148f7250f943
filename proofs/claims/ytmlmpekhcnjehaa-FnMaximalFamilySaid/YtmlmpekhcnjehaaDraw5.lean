/- Contracts of the draws of sequences: bits of a register of the model, drawn bits, maximal taps. Contracts of the draws of sequences: drawn bits, one of a list of texts, digits, maximal taps. Contracts of the draws of sequences: maximal taps of the model, a drawn sequence. Contracts of the draws of sequences: one of some texts, digits, a sequence, one that is sometimes none, a shift, two sequences. -/
import Derived.Test.YtmlmpekhcnjehaaTapOf
import Derived.Test.YtmlmpekhcnjehaaDraw2
import Derived.Test.YtmlmpekhcnjehaaRegWalk
import Derived.Test.YtmlmpekhcnjehaaSeqTurn
import Derived.Test.YtmlmpekhcnjehaaSeqTable
import Derived.Test.YtmlmpekhcnjehaaSRun
import Derived.Deep.RegionWith
namespace Go.Proofs.Ytmlmpekhcnjehaa
open Go.RowKit
set_option linter.unusedVariables false
/-- What drawing a string leaves. -/
def StrPost (M b p : Nat) (zs : List Int) (w : World) (e : Ending) (w' : World) : Prop :=
  ∃ (z : ByteArray) (q : Nat), e = .returned (.string z) ∧ 1 ≤ z.size + (if M = 0 then 1 else 0) ∧ z.size ≤ M ∧ q ≤ p + 100 ∧ RdAt w' b q zs ∧ w.grownBy w' (some b)
/-- A string that the reader gave, perhaps empty. -/
def StrPost0 (M b p : Nat) (zs : List Int) (w : World) (e : Ending) (w' : World) : Prop :=
  ∃ (z : ByteArray) (q : Nat), e = .returned (.string z) ∧ z.size ≤ M ∧ q ≤ p + 100 ∧ RdAt w' b q zs ∧ w.grownBy w' (some b)
end Go.Proofs.Ytmlmpekhcnjehaa
namespace Go.Proofs.Ytmlmpekhcnjehaa
open Go.RowKit
set_option linter.unusedVariables false
/-- A slice of n bytes of the call's own. -/
def OB (w : World) (B : Nat) (v : Value) (n : Nat) : Prop := ∃ l : List Nat, l.length = n ∧ w.ownsRow B 5 1 v n (l.map fun x => Value.int .u8 (x : Nat))
theorem OB.kept {w w' : World} {B : Nat} {v : Value} {n : Nat} {row : Option Nat} (h : OB w B v n) (hg : w.grownBy w' row) (hne : v.ownBlock = none ∨ v.ownBlock ≠ row) : OB w' B v n := by
  obtain ⟨l, hl, h⟩ := h; exact ⟨l, hl, World.ownsRow.kept h hg hne⟩
theorem OB.alloc {w : World} {B : Nat} {v : Value} {n : Nat} (h : OB w B v n) (o : Obj) : OB (w.alloc o) B v n := by
  obtain ⟨l, hl, h⟩ := h; exact ⟨l, hl, World.ownsRow.alloc h o⟩
theorem OB.lt {w : World} {B : Nat} {v : Value} {n : Nat} (h : OB w B v n) : ∀ k, v.ownBlock = some k → B ≤ k ∧ k < w.heap.size := by
  obtain ⟨l, hl, h⟩ := h; exact World.ownsRow.lt h
theorem OB.str {w : World} {B : Nat} {v : Value} {n : Nat} (h : OB w B v n) : ∃ z : ByteArray, z.size = n ∧ (convert 27 9 v).run Try.prog w = .ok (.string z) w := by
  obtain ⟨l, hl, h⟩ := h
  have hc := fun g hg => World.ownsRow.cells h (g := g) hg
  obtain ⟨h1, ⟨rfl, rfl⟩ | ⟨g, cap, cur, rfl, hB, hg, hn, hm, hs, ht⟩⟩ := h
  · exact ⟨ByteArray.empty, rfl, run_convert_bytes_nil w 27 5 (by kernel_rfl) (by kernel_rfl) 0 0 9 (by kernel_rfl)⟩
  · refine ⟨_, ?_, run_convert_bytes_arg w 27 5 (by kernel_rfl) (by kernel_rfl) g 0 n cap (l.map fun x => ((x : Nat) : Int)) (by simp [hl]) (fun i hi => ?_) 9 (by kernel_rfl)⟩
    · rw [strOfNums_size]; simp [hl]
    · have hil : i < l.length := by omega
      have := hc g rfl i (.int .u8 (l[i] : Nat)) (by simp [List.getElem?_eq_getElem hil])
      have e : (⟨g, 0, none⟩ : Addr).add i = ⟨g, 0 + i, none⟩ := by unfold Addr.add; split <;> simp_all
      rw [e] at this
      rw [this]
      simp [List.getD_eq_getElem?_getD, List.getElem?_eq_getElem hil]
theorem bytes_info : (Try.prog.info? 5).map (fun i => (i.zero, i.size, i.bytes)) = some (some (.int .u8 0), 1, 1) := by kernel_rfl
theorem make_own_bytes (m : Nat) (hm : m ≤ 1000) (w : World) :
    (Instr.makeSlice 27 (.int .i64 0) (.int .i64 (m : Int))).run Try.prog w = .ok (.slice (some ⟨w.heap.size, 0, none⟩) 0 m) (w.alloc (.cells (madeCells #[.int .u8 0] m) 5)) := by
  obtain ⟨i0, hi, hzz⟩ := Option.map_eq_some_iff.1 bytes_info
  simp only [Prod.mk.injEq] at hzz
  obtain ⟨hz, hsz, hby⟩ := hzz
  have := run_make (P := Try.prog) w 27 5 i0 (.int .u8 0) (by kernel_rfl) hi hz .i64 .i64 0 m (Int.le_refl _) (by omega) (by rw [hby]; omega) (by omega)
  simpa [hsz, Value.cells] using this
theorem OB.made (m : Nat) (hm : m ≤ 1000) (w : World) : OB (w.alloc (.cells (madeCells #[.int .u8 0] m) 5)) w.heap.size (.slice (some ⟨w.heap.size, 0, none⟩) 0 m) 0 :=
  ⟨[], rfl, World.ownsRow_made w _ m (Nat.le_refl _) (by unfold maxLen; omega) (by simp [madeCells])⟩
theorem wpList_append_byte {w : World} {ops : Array Oper} {rest : List Oper} {o : Oper} {a : Act} {Q : Exit → Act → World → Prop} (hgd : o.guard = none) (s x : Operand)
    (ho : o.op = .call { callee := .builtin .append, args := #[s, x], argTypes := #[27, 27] }) (B : Nat) (v : Value) (n : Nat) (hs : a.eval s = v) (hown : OB w B v n)
    (ad c y : Nat) (hx : a.eval x = .slice (some ⟨ad, 0, none⟩) 1 c) (hc : w.cell? ⟨ad, 0, none⟩ = some (.int .u8 (y : Nat))) (hn : n ≤ 1000000) (hB : B ≤ w.heap.size)
    (h : ∀ v' w', OB w' B v' (n + 1) → w.grownBy w' v.ownBlock → wpList Try.prog ops Q rest (a.put o.dst v') w') : wpList Try.prog ops Q (o :: rest) a w := by
  obtain ⟨i0, hi, hzz⟩ := Option.map_eq_some_iff.1 bytes_info
  simp only [Prod.mk.injEq] at hzz
  obtain ⟨hz, hsz, hby⟩ := hzz
  obtain ⟨l, hl, hown⟩ := hown
  refine wpList_append_own w hgd s x 27 ho B 5 i0 (.int .u8 0) 1 1 (by kernel_rfl) hi hz hsz hby rfl (by decide) v n _ hs hown ⟨ad, 0, none⟩ 1 c [.int .u8 (y : Nat)] hx rfl ?_ ?_ ?_ ?_ hB ?_
  · intro j u hj
    cases j with
    | zero => simp at hj; subst hj; exact hc
    | succ j => simp at hj
  · intro u hu; simp at hu; subst hu; rfl
  · unfold maxLen; omega
  · omega
  · intro v' w' h1 h2 _
    exact h v' w' ⟨l ++ [y], by simp [hl], by rw [List.map_append]; exact h1⟩ h2
theorem grown_own {w w1 w2 : World} {b : Nat} {row : Option Nat} (h : w.grownBy w1 (some b)) (k : w1.grownBy w2 row) (hr : ∀ j, row = some j → w.heap.size ≤ j) : w.grownBy w2 (some b) :=
  h.andThen k (fun j e => .inl (hr j e))
end Go.Proofs.Ytmlmpekhcnjehaa
namespace Go.Proofs.Ytmlmpekhcnjehaa
open Go.RowKit
set_option linter.unusedVariables false
set_option maxRecDepth 100000 in
theorem l1Maximal_from (s t : Nat) (A : Int) (h8 : s ≤ 8) (hs : ∀ w, Calls Try.prog 65 #[.agg #[.int .i64 s, .int .i64 t, .int .i64 1]] w fun e w' => e = .returned (.int .i64 A) ∧ Below w.heap.size w w') (w : World) :
    Calls Try.prog 46 #[.int .i64 s, .int .i64 t] w fun e w' => e = .returned (.bool (decide (A = (tw s : Int) - 1))) ∧ Below w.heap.size w w' := by
  have HS := Lib.hid hs
  have hp := tw_pos s
  have ht := tw_le s h8
  have HT := Lib.hid (fun w => l1Two_any s w h8)
  clear hs
  have b0 : Below w.heap.size w (w.alloc (.cells #[.int .i64 s, .int .i64 t, .int .i64 1] 57)) := (Below.refl _ _).alloc (Nat.le_refl _) _
  by_cases hA : A = (tw s : Int) - 1
  · rw [decide_eq_true hA]
    subst hA
    go_enter Try.func46, Try.ntmps46
    go_wp2_with fail
    refine (HS.out _).mono ?_
    rintro e w1 ⟨rfl, hb1⟩
    have b1 := below_then b0 (Nat.le_refl _) hb1
    clear hb1 b0
    go_wp2_with fail
    refine (HT.out _).mono ?_
    rintro e w2 ⟨rfl, rfl⟩
    go_wp2
    go_ret
    exact ⟨ret_bool (by simp), b1⟩
  · rw [decide_eq_false hA]
    go_enter Try.func46, Try.ntmps46
    go_wp2_with fail
    refine (HS.out _).mono ?_
    rintro e w1 ⟨rfl, hb1⟩
    have b1 := below_then b0 (Nat.le_refl _) hb1
    clear hb1 b0
    go_wp2_with fail
    refine (HT.out _).mono ?_
    rintro e w2 ⟨rfl, rfl⟩
    go_wp2
    go_ret
    exact ⟨ret_bool (by simp [hA]), b1⟩
theorem tapOf_max (s : Nat) (h2 : 2 ≤ s) (h5 : s ≤ 5) (w : World) :
    Calls Try.prog 46 #[.int .i64 s, .int .i64 (tapOf s)] w fun e w' => e = .returned (.bool true) ∧ Below w.heap.size w w' := by
  obtain ⟨h1, h3, h4⟩ := tapOf_orbit s h2 h5
  have hp := tw_pos s
  have hP := fun w => sPeriodOf_yes s (tapOf s) 1 w (tapOf_reg s h2 h5) (tw s - 1) h1 (by rw [h3]; decide) h4
  rw [h3] at hP
  have := l1Maximal_from s (tapOf s) (((tw s - 1 : Nat) : Int) + 1 - ((1 : Nat) : Int)) (by omega) hP w
  rwa [decide_eq_true (by omega)] at this
theorem l1Maximal_some (s t : Nat) (h2 : 2 ≤ s) (h5 : s ≤ 5) (h : RegN s t 1) : ∃ bb : Bool, (t = tapOf s → bb = true) ∧ ∀ w, Calls Try.prog 46 #[.int .i64 s, .int .i64 t] w fun e w' => e = .returned (.bool bb) ∧ Below w.heap.size w w' := by
  by_cases ht : t = tapOf s
  · subst ht; exact ⟨true, fun _ => rfl, tapOf_max s h2 h5⟩
  · obtain ⟨N, hN, h0, hm⟩ := orbit_ends h
    exact ⟨_, fun e => absurd e ht, l1Maximal_from s t _ (by omega) (fun w => sPeriodOf_yes s t 1 w h N hN h0 hm)⟩
/-- Maximal taps of a size: at least one, and all are taps. -/
def TapsPost (s : Nat) (w : World) (e : Ending) (w' : World) : Prop :=
  ∃ (v : Value) (n : Nat) (f : Nat → Int), e = .returned v ∧ OF w' w.heap.size v n f ∧ 1 ≤ n ∧ n ≤ 300 ∧ (∀ j, j < n → ∃ t : Nat, f j = t ∧ RegN s t 1) ∧ Below w.heap.size w w'
set_option maxHeartbeats 1600000 in
set_option maxRecDepth 100000 in
theorem mTaps_any (s : Nat) (w : World) (h2 : 2 ≤ s) (h5 : s ≤ 5) : Calls Try.prog 23 #[.int .i64 s] w (TapsPost s w) := by
  have htw := tw_le s (by omega)
  have htw4 := tw_four s h2
  have HR : Hid (∀ t : Nat, 1 ≤ t → t < tw s → RegN s t 1) := fun t h1 h3 => ⟨by omega, by omega, h1, h3, by omega⟩
  have hto : 1 ≤ tapOf s ∧ tapOf s < tw s := ⟨(tapOf_reg s h2 h5).tap, (tapOf_reg s h2 h5).tapLt⟩
  obtain ⟨t0, ht0⟩ : ∃ t0, tapOf s = t0 := ⟨_, rfl⟩
  have HM : Hid (∀ t : Nat, 1 ≤ t → t < tw s → ∃ bb : Bool, (t = t0 → bb = true) ∧ ∀ w, Calls Try.prog 46 #[.int .i64 s, .int .i64 t] w fun e w' => e = .returned (.bool bb) ∧ Below w.heap.size w w') := fun t h1 h3 => by
    rw [← ht0]; exact l1Maximal_some s t h2 h5 (HR.out t h1 h3)
  have HY : Hid (∀ (t : Nat) w, 1 ≤ t → t < tw s → Calls Try.prog 45 #[.int .i64 s, .int .i64 t] w fun e w' => e = .returned (.bool true) ∧ w = w') := fun t w h1 h3 => l1Taps_yes _ _ w ((tapsB_iff _ _).2 ⟨by omega, by omega, by omega, by rw [Int.toNat_natCast]; omega⟩)
  have HN : Hid (∀ (t : Nat) w, tw s ≤ t → Calls Try.prog 45 #[.int .i64 s, .int .i64 t] w fun e w' => e = .returned (.bool false) ∧ w = w') := fun t w h1 => l1Taps_no _ _ w (by
    cases hb : tapsB s t with
    | false => rfl
    | true => have h := (tapsB_iff _ _).1 hb; rw [Int.toNat_natCast] at h; omega)
  rw [ht0] at hto
  obtain ⟨T, hT⟩ : ∃ T, tw s = T := ⟨_, rfl⟩
  rw [hT] at HR HM HY HN hto htw
  clear ht0 hT htw4
  go_enter Try.func23, Try.ntmps23
  go_wp2
  go_loopw [3, 4] (fun v i wr => ∃ (k n : Nat) (f : Nat → Int), 1 ≤ k ∧ k ≤ T ∧ i = .int .i64 k ∧ n + 1 ≤ k ∧ (t0 < k → 1 ≤ n) ∧ OF wr w.heap.size v n f ∧ Hid (∀ j, j < n → ∃ t : Nat, f j = t ∧ RegN s t 1) ∧ Below w.heap.size w wr) (fun _ i _ => T - (intOf i).toNat)
  case atStart => exact ⟨1, 0, fun _ => 0, by omega, by omega, rfl, by omega, fun h => by omega, OF.empty w _, fun j hj => absurd hj (Nat.not_lt_zero j), (Below.refl _ _).alloc (Nat.le_refl _) _⟩
  case round =>
    obtain ⟨k, n, f, hk1, hk2, rfl, hnk, ht, rO, rf, rb⟩ := hrel
    have HT := Lib.hid ht
    clear ht
    by_cases hlt : k < T
    · obtain ⟨bb, hbb, hM⟩ := HM.out k hk1 hlt
      have HB := Lib.hid hbb
      have HMM := Lib.hid hM
      clear hbb hM
      go_wp2_with fail
      refine (HY.out k _ hk1 hlt).mono ?_
      rintro e w1 ⟨rfl, rfl⟩
      go_wp2_with fail
      refine (HMM.out _).mono ?_
      rintro e w1 ⟨rfl, hB⟩
      have O1 := rO.below hB
      have b1 := below_then rb (Nat.le_refl _) hB
      clear rO rb hB
      cases bb with
      | false =>
        have hT' : Hid (t0 < k + 1 → 1 ≤ n) := fun h => by
          rcases Nat.lt_or_ge t0 k with h' | h'
          · exact HT.out h'
          · have := HB.out (by omega); cases this
        clear HB HT
        go_wp2
        go_roundw
        case rel => exact ⟨k + 1, n, f, by omega, by omega, by go_num, by omega, hT'.out, O1, rf, b1⟩
        case measure => simp [intOf]; omega
      | true =>
        go_wp2_with (at_builtin; refine wpList_append_int rfl _ _ rfl w.heap.size _ n f rfl (O1.alloc _) w1.heap.size 1 (k : Int) rfl ?c1 ?c2 ?c3 ?_; rotate_left 3; intro v' w' O2 g2)
        case c1 => simp
        case c2 => omega
        case c3 => have := b1.size; simp; omega
        have hb' : Below w.heap.size w w' := (b1.alloc b1.size _).grown g2 (by have := b1.size; simp; omega) (fun q hq => (O1.lt q hq).1)
        have hf' : Hid (∀ j, j < n + 1 → ∃ t : Nat, (if j < n then f j else (k : Int)) = t ∧ RegN s t 1) := fun j hj => by
          by_cases e : j < n
          · rw [if_pos e]; exact rf.out j e
          · rw [if_neg e]; exact ⟨k, rfl, HR.out k hk1 hlt⟩
        clear O1 b1 g2 rf
        go_wp2
        go_roundw
        case rel => exact ⟨k + 1, n + 1, _, by omega, by omega, by go_num, by omega, fun _ => by omega, O2, hf', hb'⟩
        case measure => simp [intOf]; omega
    · obtain rfl : k = T := by omega
      go_wp2_with fail
      refine (HN.out k _ (Nat.le_refl _)).mono ?_
      rintro e w1 ⟨rfl, rfl⟩
      go_wp2
      go_ret
      exact ⟨_, n, f, rfl, rO, HT.out (by omega), by omega, rf.out, rb⟩
end Go.Proofs.Ytmlmpekhcnjehaa
namespace Go.Proofs.Ytmlmpekhcnjehaa
open Go.RowKit
set_option linter.unusedVariables false
/-- A row of texts, none longer than M. -/
def TxtAt (w : World) (L n M : Nat) : Prop := L < w.heap.size ∧ ∀ i, i < n → ∃ z : ByteArray, w.cell? ⟨L, i, none⟩ = some (.string z) ∧ z.size ≤ M
/-- What drawing a sequence leaves. -/
def SeqPost (b p : Nat) (zs : List Int) (w : World) (e : Ending) (w' : World) : Prop :=
  ∃ (z : ByteArray) (q : Nat), e = .returned (.string z) ∧ 1 ≤ z.size ∧ z.size ≤ 40 ∧ q ≤ p + 200 ∧ RdAt w' b q zs ∧ w.grownBy w' (some b)
end Go.Proofs.Ytmlmpekhcnjehaa
