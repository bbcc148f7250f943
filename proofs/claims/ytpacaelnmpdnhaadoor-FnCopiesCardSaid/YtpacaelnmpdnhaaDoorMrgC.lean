/- Chips and signs, energy and errors: contracts of both sides. SignsOf, EnergyOf and BitErrors: contracts of both sides. Appending and cutting slices of numbers; signals that are results; ScaleSignal and ClipSignal of both sides. slices.Grow and slices.Concat of two slices of numbers, at the program. An append of a slice of numbers in a drawn region. -/
import Derived.Test.YtpacaelnmpdnhaaDoorSig
import Derived.Laws.CopyOwn
import Derived.Laws.AppendOwnNone
namespace Go.Proofs.YtpacaelnmpdnhaaDoor
open Go.RowKit
set_option linter.unusedVariables false
set_option maxRecDepth 100000
/-- A slice of n numbers that can be read and cut: element i is f i. -/
def IntsC (w : World) (v : Value) (n : Nat) (f : Nat → Int) : Prop :=
  ∃ a cap, v = .slice a n cap ∧ n ≤ cap ∧ ∀ i, i < n → ∃ x : Addr, a = some x ∧ x.block < w.heap.size ∧ w.cell? (x.add i) = some (.int .i64 (f i))
theorem IntsC.ints {w : World} {v : Value} {n : Nat} {f : Nat → Int} (h : IntsC w v n f) : IntsR w v n f := by
  obtain ⟨a, cap, h1, _, h2⟩ := h
  exact ⟨a, cap, h1, h2⟩
theorem IntsC.below {w w' : World} {v : Value} {n : Nat} {f : Nat → Int} (h : IntsC w v n f) (hb : Below w.heap.size w w') : IntsC w' v n f := by
  obtain ⟨a, cap, rfl, hl, hc⟩ := h
  refine ⟨a, cap, rfl, hl, fun i hi => ?_⟩
  obtain ⟨x, rfl, h1, h2⟩ := hc i hi
  exact ⟨x, rfl, Nat.lt_of_lt_of_le h1 hb.size, (hb.cell (p := x.add i) (by rw [add_block]; exact h1)).trans h2⟩
theorem OF.intsC {w : World} {B : Nat} {v : Value} {n : Nat} {f : Nat → Int} (h : OF w B v n f) : IntsC w v n f := by
  have hr := h.ints
  obtain ⟨h1, ⟨rfl, rfl⟩ | ⟨g, cap, cur, rfl, hB, hg, hn, hm, hs, ht⟩⟩ := h
  · exact ⟨none, 0, rfl, Nat.le_refl _, fun i hi => absurd hi (Nat.not_lt_zero i)⟩
  · obtain ⟨a, c, e, hc⟩ := hr
    injection e with e1 e2 e3
    subst e1 e3
    exact ⟨_, cap, rfl, hn, hc⟩
theorem OF.none0 (w : World) (B : Nat) (f : Nat → Int) : OF w B (.slice none 0 0) 0 f := OF.nil w B f
/-- The chip of a bit. -/
def chF (z : ByteArray) (i : Nat) : Int := 1 - 2 * ((zb z i : Int) - 48)
theorem chF_of {z : ByteArray} {i b : Nat} (h : zb z i = 48 + b) : chF z i = 1 - 2 * (b : Int) := by unfold chF; rw [h]; omega
theorem chF_bd {z : ByteArray} (h : okB z z.size = true) {i : Nat} (hi : i < z.size) : chF z i = 1 ∨ chF z i = -1 := by
  unfold chF
  rcases okB_zb z h i hi with e | e <;> rw [e] <;> decide
theorem bits_iff (z : ByteArray) : bitsB z = true ↔ okB z z.size = true ∧ z.size ≤ 600 := by unfold bitsB; simp only [Bool.and_eq_true, decide_eq_true_eq]
/-- How many chips ChipsOf answers. -/
def chN (z : ByteArray) : Nat := if bitsB z then z.size else 0
theorem chN_le6 (z : ByteArray) : chN z ≤ 1000000 := by
  unfold chN
  split
  · have := ((bits_iff z).1 (by assumption)).2; omega
  · omega
theorem ret_st {a b : ByteArray} (h : a = b) : Ending.returned (.string a) = .returned (.string b) := by rw [h]
/-- The bits that signs tell. -/
def sgF (f : Nat → Int) (i : Nat) : Nat := if f i < 0 then 49 else 48
def sgS (n : Nat) (f : Nat → Int) : ByteArray := strF n (sgF f)
theorem sgF_lt (f : Nat → Int) (i : Nat) : sgF f i < 256 := by unfold sgF; split <;> omega
theorem sgS_size (n : Nat) (f : Nat → Int) : (sgS n f).size = n := strF_size _ _
theorem zb_sgS {n : Nat} {f : Nat → Int} {i : Nat} (h : i < n) : zb (sgS n f) i = sgF f i := zb_strF h (sgF_lt f i)
theorem sgS_congr {n : Nat} {f g : Nat → Int} (h : ∀ i, i < n → f i = g i) : sgS n f = sgS n g := strF_congr fun i hi => by unfold sgF; rw [h i hi]
theorem sgS_ok (n : Nat) (f : Nat → Int) : okB (sgS n f) (sgS n f).size = true := okB_of_zb _ fun i hi => by
  rw [sgS_size] at hi
  rw [zb_sgS hi]
  unfold sgF
  split
  · exact .inr rfl
  · exact .inl rfl
end Go.Proofs.YtpacaelnmpdnhaaDoor
namespace Go.Proofs.YtpacaelnmpdnhaaDoor
open Go.RowKit
set_option linter.unusedVariables false
set_option maxRecDepth 100000
def sgAns (n : Nat) (f : Nat → Int) : ByteArray × Bool := if sigB n f && decide (n ≤ 600) then (sgS n f, true) else noS
theorem sq_bd {y : Int} (h1 : -1000000 ≤ y) (h2 : y ≤ 1000000) : 0 ≤ y * y ∧ y * y ≤ 1000000000000 := by
  rcases Int.le_total 0 y with h | h
  · exact ⟨Int.mul_nonneg h h, by have := Int.mul_le_mul h2 h2 h (by omega); omega⟩
  · have h3 : 0 ≤ -y := by omega
    have h4 : -y ≤ 1000000 := by omega
    have e : -y * -y = y * y := Int.neg_mul_neg y y
    exact ⟨by rw [← e]; exact Int.mul_nonneg h3 h3, by rw [← e]; have := Int.mul_le_mul h4 h4 h3 (by omega); omega⟩
/-- The sum of the squares. -/
def enF (f : Nat → Int) : Nat → Int := sumI (fun i => f i * f i)
theorem enF_succ (f : Nat → Int) (k : Nat) : enF f (k + 1) = enF f k + f k * f k := rfl
theorem enF_bd {n : Nat} {f : Nat → Int} (h : allM n f = true) : ∀ k, k ≤ n → 0 ≤ enF f k ∧ enF f k ≤ 1000000000000 * (k : Int)
  | 0, _ => by simp [enF, sumI]
  | k + 1, hk => by
    have ih := enF_bd h k (by omega)
    have hz := allM_at h (show k < n by omega)
    have := sq_bd hz.1 hz.2
    rw [enF_succ]; omega
def enAns (n : Nat) (f : Nat → Int) : Int := if sigB n f then enF f n else -1
/-- In how many places two strings differ. -/
def errN (a b : ByteArray) : Nat → Nat
  | 0 => 0
  | k + 1 => errN a b k + if zb a k = zb b k then 0 else 1
theorem errN_le (a b : ByteArray) : ∀ k, errN a b k ≤ k
  | 0 => Nat.le_refl _
  | k + 1 => by have := errN_le a b k; simp only [errN]; split <;> omega
def errAns (a b : ByteArray) : Int := if bitsB a && (bitsB b && decide (a.size = b.size)) then (errN a b a.size : Int) else -1
end Go.Proofs.YtpacaelnmpdnhaaDoor
namespace Go.Proofs.YtpacaelnmpdnhaaDoor
open Go.RowKit
set_option linter.unusedVariables false
set_option maxRecDepth 100000
theorem wpList_append_ints {w : World} {ops : Array Oper} {rest : List Oper} {o : Oper} {a : Act} {Q : Exit → Act → World → Prop} (hgd : o.guard = none) (s x : Operand)
    (ho : o.op = .call { callee := .builtin .append, args := #[s, x], argTypes := #[31, 31] }) (B : Nat) (v : Value) (n : Nat) (f : Nat → Int) (hs : a.eval s = v) (hown : OF w B v n f)
    (u : Value) (m : Nat) (g : Nat → Int) (hx : a.eval x = u) (hu : IntsR w u m g) (hu0 : u = .slice none 0 0 ∨ ∃ x c, u = .slice (some x) m c) (hn : n + m ≤ 1000000) (hB : B ≤ w.heap.size)
    (h : ∀ v' w', OF w' B v' (n + m) (fun j => if j < n then f j else g (j - n)) → w.grownBy w' v.ownBlock → wpList Tryd.prog ops Q rest (a.put o.dst v') w') : wpList Tryd.prog ops Q (o :: rest) a w := by
  obtain ⟨i0, hi, hzz⟩ := Option.map_eq_some_iff.1 ints_info
  simp only [Prod.mk.injEq] at hzz
  obtain ⟨hz, hsz, hby⟩ := hzz
  have e : ((List.range (n + m)).map fun j => Value.int .i64 (if j < n then f j else g (j - n))) = ((List.range n).map fun j => Value.int .i64 (f j)) ++ ((List.range m).map fun j => Value.int .i64 (g j)) := by
    apply List.ext_getElem (by simp)
    intro j h1 h2
    simp at h1
    by_cases hj : j < n
    · rw [List.getElem_append_left (by simpa using hj)]; simp [hj]
    · rw [List.getElem_append_right (by simp; omega)]; simp [hj]
  rcases hu0 with rfl | ⟨ad, c, rfl⟩
  · have hm : m = 0 := by
      obtain ⟨a', c', e1, _⟩ := hu
      injection e1 with _ e2 _
      exact e2.symm
    subst hm
    refine wpList_append_own_none hgd s x 31 ho B 3 i0 1 (by kernel_rfl) hi v n _ hs hown hx ?_
    exact h v w (hown.congr fun j hj => by rw [if_pos hj]) ⟨rfl, rfl, rfl, Nat.le_refl _, fun _ _ _ => rfl⟩
  · obtain ⟨a', c', e1, hc⟩ := hu
    injection e1 with e1 _ _
    subst e1
    refine wpList_append_own w hgd s x 31 ho B 3 i0 (.int .i64 0) 1 8 (by kernel_rfl) hi hz hsz hby rfl (by decide) v n _ hs hown ad m c ((List.range m).map fun j => Value.int .i64 (g j)) hx (by simp) ?_ ?_ ?_ ?_ hB ?_
    · intro j y hj
      rw [List.getElem?_map] at hj
      by_cases hjm : j < m
      · rw [List.getElem?_range hjm] at hj
        simp at hj
        subst hj
        obtain ⟨x', e2, _, h3⟩ := hc j hjm
        injection e2 with e2
        subst e2
        exact h3
      · rw [List.getElem?_eq_none (by simp; omega)] at hj
        simp at hj
    · intro y hy
      simp at hy
      obtain ⟨j, _, rfl⟩ := hy
      rfl
    · unfold maxLen; omega
    · omega
    · intro v' w' h1 h2 _
      refine h v' w' ?_ h2
      unfold OF
      rw [e]; exact h1
theorem OF.tail0 {w : World} {B : Nat} {v : Value} {n : Nat} {f : Nat → Int} (h : OF w B v n f) : v = .slice none 0 0 ∨ ∃ x c, v = .slice (some x) n c := by
  obtain ⟨h1, ⟨rfl, rfl⟩ | ⟨g, cap, cur, rfl, _⟩⟩ := h
  · exact .inl rfl
  · exact .inr ⟨_, _, rfl⟩
theorem ints_elem (w : World) : (sizeOf (Tryd.prog.elem 31)).run Tryd.prog w = .ok 1 w := by kernel_rfl
theorem addr_plus (x : Addr) (i j : Nat) : (x.add i).add j = x.add (i + j) := by
  by_cases hi : i = 0
  · subst hi; simp [Addr.add]
  · by_cases hj : j = 0
    · subst hj; simp [Addr.add]
    · have h3 : ¬ i + j = 0 := by omega
      simp only [Addr.add, hi, hj, h3, if_false, Nat.add_assoc]
/-- A cut from a place on: again a slice that can be read and cut. -/
theorem cutC {w : World} {v : Value} {n : Nat} {f : Nat → Int} (h : IntsC w v n f) (l m : Nat) (hl : l ≤ m) (hm : m ≤ n) : ∃ a' cap', (∀ w1, (Instr.sliceAt 31 v (some (.int .i64 (l : Int))) (some (.int .i64 (m : Int))) none).run Tryd.prog w1 = .ok (.slice a' (m - l) cap') w1) ∧
    IntsC w (.slice a' (m - l) cap') (m - l) (fun i => f (l + i)) := by
  obtain ⟨a, cap, rfl, hcap, hc⟩ := h
  refine ⟨if cap = l then a else a.map (·.add (l * 1)), cap - l, fun w1 => ?_, ?_⟩
  · rw [run_sliceAt_slice w1 31 _ _ _ _ (by kernel_rfl), run_slice_lh w1 31 a n cap (by kernel_rfl) .i64 .i64 _ _ (by omega) (by omega) (by omega), ints_elem]
    simp [Result.andThen, sliced]
  · refine ⟨_, _, rfl, by omega, fun i hi => ?_⟩
    obtain ⟨x, rfl, h1, h2⟩ := hc (l + i) (by omega)
    refine ⟨x.add l, by rw [if_neg (by omega)]; simp, by rw [add_block]; exact h1, ?_⟩
    rw [addr_plus]; exact h2
theorem tailC {w : World} {v : Value} {n : Nat} {f : Nat → Int} (h : IntsC w v n f) (l : Nat) (hl : l ≤ n) : ∃ a' cap', (∀ w1, (Instr.sliceAt 31 v (some (.int .i64 (l : Int))) none none).run Tryd.prog w1 = .ok (.slice a' (n - l) cap') w1) ∧
    IntsC w (.slice a' (n - l) cap') (n - l) (fun i => f (l + i)) := by
  obtain ⟨a, cap, rfl, hcap, hc⟩ := h
  refine ⟨if cap = l then a else a.map (·.add (l * 1)), cap - l, fun w1 => ?_, ?_⟩
  · rw [run_sliceAt_slice w1 31 _ _ _ _ (by kernel_rfl), run_slice_l w1 31 a n cap (by kernel_rfl) .i64 _ (by omega) (by omega), ints_elem]
    simp [Result.andThen, sliced]
  · refine ⟨_, _, rfl, by omega, fun i hi => ?_⟩
    obtain ⟨x, rfl, h1, h2⟩ := hc (l + i) (by omega)
    refine ⟨x.add l, by rw [if_neg (by omega)]; simp, by rw [add_block]; exact h1, ?_⟩
    rw [addr_plus]; exact h2
/-- A result that must be a signal. -/
def resN (n : Nat) (f : Nat → Int) : Nat := if sigB n f then n else 0
theorem resN_le (n : Nat) (f : Nat → Int) : resN n f ≤ 3000 := by
  unfold resN
  split
  · exact ((sigB_iff n f).1 (by assumption)).2
  · omega
theorem mul_bd {g y : Int} (h1 : -1000000 ≤ g) (h2 : g ≤ 1000000) (h3 : -1000000 ≤ y) (h4 : y ≤ 1000000) : -1000000000000 ≤ g * y ∧ g * y ≤ 1000000000000 := by
  have key : ∀ a b : Int, 0 ≤ a → a ≤ 1000000 → 0 ≤ b → b ≤ 1000000 → 0 ≤ a * b ∧ a * b ≤ 1000000000000 := fun a b p q r s =>
    ⟨Int.mul_nonneg p r, by have := Int.mul_le_mul q s r (by omega); omega⟩
  rcases Int.le_total 0 g with p | p <;> rcases Int.le_total 0 y with q | q
  · have := key g y p h2 q h4; omega
  · have := key g (-y) p h2 (by omega) (by omega); rw [Int.mul_neg] at this; omega
  · have := key (-g) y (by omega) (by omega) q h4; rw [Int.neg_mul] at this; omega
  · have := key (-g) (-y) (by omega) (by omega) (by omega) (by omega); rw [Int.neg_mul_neg] at this; omega
/-- Scaled samples. -/
def scF (g : Int) (f : Nat → Int) (i : Nat) : Int := g * f i
def scOK (n : Nat) (f : Nat → Int) (g : Int) : Bool := sigB n f && (inM g && sigB n (scF g f))
def scN (n : Nat) (f : Nat → Int) (g : Int) : Nat := if scOK n f g then n else 0
theorem scN_le6 (n : Nat) (f : Nat → Int) (g : Int) : scN n f g ≤ 1000000 := by
  unfold scN scOK
  split
  · rename_i h
    rw [Bool.and_eq_true] at h
    have := ((sigB_iff n f).1 h.1).2
    omega
  · omega
theorem scN_in {n : Nat} {f : Nat → Int} {g : Int} (h1 : sigB n f = true) (h2 : inM g = true) : scN n f g = resN n (scF g f) ∧ scOK n f g = sigB n (scF g f) := by
  unfold scN scOK resN; rw [h1, h2]; simp
theorem sc_out {n : Nat} {f : Nat → Int} {g : Int} (h : ¬ (sigB n f = true ∧ inM g = true)) : scN n f g = 0 ∧ scOK n f g = false := by
  have : scOK n f g = false := by
    unfold scOK
    cases h1 : sigB n f with
    | false => rfl
    | true =>
      cases h2 : inM g with
      | false => rfl
      | true => exact absurd ⟨h1, h2⟩ h
  exact ⟨by unfold scN; rw [this]; rfl, this⟩
end Go.Proofs.YtpacaelnmpdnhaaDoor
namespace Go.Proofs.YtpacaelnmpdnhaaDoor
open Go.RowKit
set_option linter.unusedVariables false
set_option maxRecDepth 100000
/-- The first m numbers of a slice, by x[:m]. -/
theorem headI {w : World} {a : Option Addr} {n cap : Nat} {f : Nat → Int} (h : IntsC w (.slice a n cap) n f) (m : Nat) (hm : m ≤ n) : (∀ w1, (Instr.sliceAt 31 (.slice a n cap) none (some (.int .i64 (m : Int))) none).run Tryd.prog w1 = .ok (.slice a m cap) w1) ∧
    IntsC w (.slice a m cap) m f := by
  obtain ⟨a', cap', e, hcap, hc⟩ := h
  injection e with e1 e2 e3
  subst e1 e3
  refine ⟨fun w1 => ?_, ⟨a, cap, rfl, by omega, fun i hi => hc i (by omega)⟩⟩
  rw [run_sliceAt_slice w1 31 _ _ _ _ (by kernel_rfl), run_slice_h w1 31 a n cap (by kernel_rfl) .i64 _ (by omega) (by omega), ints_elem]
  simp [Result.andThen, sliced]
  intro _
  cases a with
  | none => rfl
  | some x =>
    show some (x.add 0) = some x
    congr 1
/-- An append of n noughts to nothing. -/
theorem run_append_zeros {P : Program} (w : World) (t u ty e : TypeId) (i : TypeInfo) (z : Value) (ht : P.underlying t = some (.slice e)) (hu : P.underlying u = some (.int .i64)) (hi : P.info? e = some i) (hz : i.zero = some z)
    (n : Nat) (h0 : 0 < n) (hs : 0 < i.size) (h63 : n ≤ 1000000) (h48 : i.bytes ≤ 8) :
    (Builtin.append_ #[t, u] ty #[.slice none 0 0, .int .i64 (n : Int)]).run P w =
      .ok (.slice (some ⟨w.heap.size, 0, none⟩) n (grownCap w n 0 e)) (w.drew.alloc (.cells (Builtin.zeroCells z.cells n ++ Builtin.zeroCells z.cells (grownCap w n 0 e - n)) e)) := by
  have hn : n ≠ 0 := by omega
  have hw : IntKind.i64.wrap (n : Int) = (n : Int) := IntWalk.i64_in _ (by omega)
  have h63' : ¬ (9223372036854775807 < (n : Int)) := by omega
  have hb : n * i.bytes ≤ 1000000 * 8 := Nat.mul_le_mul h63 h48
  have h48' : ¬ (281474976710656 < Builtin.nextslicecap n 0 * i.bytes) := by rw [nextslicecap_zero h0]; omega
  have h48i : ¬ (281474976710656 < (n : Int) * (i.bytes : Int)) := by rw [← Int.natCast_mul]; omega
  have hneg : ¬ ((n : Int) < 0) := by omega
  have ha : (asIntOf (.int .i64 (n : Int))).run P w = .ok (.i64, (n : Int)) w := rfl
  simp [Builtin.append_, run_underlying ht, run_underlying hu, sizeOf, typeInfo, zeroValue, hi, hz, hn, hw, hneg, ha, h63', h48', h48i, asInt, Question.forced, run_firstCells_none, newRow, grownCap]
  intro h
  have := Nat.mul_pos h0 hs
  omega
theorem wpList_append_zeros {w : World} {ops : Array Oper} {rest : List Oper} {o : Oper} {a : Act} {Q : Exit → Act → World → Prop} (hgd : o.guard = none) (s x : Operand)
    (ho : o.op = .call { callee := .builtin .append, args := #[s, x], argTypes := #[31, 3] }) (n : Nat) (hs : a.eval s = .slice none 0 0) (hx : a.eval x = .int .i64 (n : Int)) (h0 : 0 < n) (hn : n ≤ 1000000)
    (h : ∀ cap w', (∀ m, m ≤ n → OF w' w.heap.size (.slice (some ⟨w.heap.size, 0, none⟩) m cap) m (fun _ => 0)) → n ≤ cap → Below w.heap.size w w' → wpList Tryd.prog ops Q rest (a.put o.dst (.slice (some ⟨w.heap.size, 0, none⟩) n cap)) w') : wpList Tryd.prog ops Q (o :: rest) a w := by
  obtain ⟨i0, hi, hzz⟩ := Option.map_eq_some_iff.1 ints_info
  simp only [Prod.mk.injEq] at hzz
  obtain ⟨hz, hsz, hby⟩ := hzz
  have hr := run_append_zeros (P := Tryd.prog) w 31 3 o.type 3 i0 (.int .i64 0) (by kernel_rfl) (by kernel_rfl) hi hz n h0 (by omega) hn (by omega)
  have hge := grownCap_ge w n 0 3
  have hcm := grownCap_le_maxLen w n 0 3 (by unfold maxLen; omega)
  refine wpList_plain hgd fun K hK => ?_
  unfold Oper.wp execOp
  simp only [ho, resolve, invoke, builtin, Sem.run_bind, Sem.run_pure, Result.andThen_ok, List.map_toArray, List.map_cons, List.map_nil, hs, hx, hr]
  refine hK _ _ (h _ _ (fun m hm => ?_) hge ?_)
  · have hcs : (Builtin.zeroCells (Value.int .i64 0).cells n ++ Builtin.zeroCells (Value.int .i64 0).cells (grownCap w n 0 3 - n)).size = grownCap w n 0 3 := by
      rw [Array.size_append, size_zeroCells, size_zeroCells]
      show n * 1 + _ * 1 = _
      omega
    refine ⟨by simp, .inr ⟨w.heap.size, _, _, rfl, Nat.le_refl _, heap_alloc_new w.drew _, by omega, hcm, by rw [hcs, Nat.mul_one], ?_⟩⟩
    have hzc : ∀ k, (Builtin.zeroCells (Value.int .i64 0).cells k).toList = List.replicate k (Value.int .i64 0) := fun k => by
      apply List.ext_getElem
      · rw [Array.length_toList, size_zeroCells, List.length_replicate]; exact Nat.mul_one k
      · intro j h1 h2
        simp [Builtin.zeroCells, Value.cells, Nat.mod_one]
    rw [Array.toList_append, hzc, hzc, List.replicate_append_replicate, Nat.mul_one, List.take_replicate, Nat.min_eq_left (by omega), List.map_const', List.length_range]
  · exact (Below.refl w.heap.size w).drew.alloc (Nat.le_refl _) _
theorem grow_any (n : Nat) (w : World) (h0 : 0 < n) (hn : n ≤ 1000000) (f : Nat → Int) :
    Calls Tryd.prog 78 #[.slice none 0 0, .int .i64 (n : Int)] w fun e w' => ∃ v, e = .returned v ∧ OF w' w.heap.size v 0 f ∧ Below w.heap.size w w' := by
  have l0 : ¬ ((n : Int) < 0) := by omega
  have l1 : (0 : Int) < (n : Int) := by omega
  go_enter Tryd.func78, Tryd.ntmps78
  go_wp2_with (at_builtin; refine wpList_append_zeros rfl (.tmp 20) (.tmp 21) rfl n rfl rfl h0 hn ?_; intro cap w1 hO hc hb; have hO0 := (hO 0 (Nat.zero_le _)).congr (g := f) (fun j hj => absurd hj (Nat.not_lt_zero j)); have hh := (headI (hO n (Nat.le_refl _)).intsC 0 (Nat.zero_le _)).1; clear hO)
  go_ret
  exact ⟨_, rfl, hO0, hb⟩
theorem grow_none (w : World) (f : Nat → Int) :
    Calls Tryd.prog 78 #[.slice none 0 0, .int .i64 0] w fun e w' => ∃ v, e = .returned v ∧ OF w' w.heap.size v 0 f ∧ Below w.heap.size w w' := by
  go_enter Tryd.func78, Tryd.ntmps78
  go_wp2
  go_ret
  exact ⟨_, rfl, OF.nil _ _ _, Below.refl _ _⟩
set_option maxHeartbeats 1600000 in
theorem concat_all (b n1 n2 : Nat) (v1 v2 : Value) (f1 f2 F : Nat → Int) (w : World) (hb : b < w.heap.size) (h1 : w.cell? ⟨b, 0, none⟩ = some v1) (h2 : w.cell? ⟨b, 1, none⟩ = some v2)
    (r1 : IntsR w v1 n1 f1) (r2 : IntsR w v2 n2 f2) (s1 : v1 = .slice none 0 0 ∨ ∃ x c, v1 = .slice (some x) n1 c) (s2 : v2 = .slice none 0 0 ∨ ∃ x c, v2 = .slice (some x) n2 c) (hn : n1 + n2 ≤ 1000000)
    (e1 : ∀ j, j < n1 → f1 j = F j) (e2 : ∀ j, j < n2 → f2 j = F (n1 + j)) :
    Calls Tryd.prog 69 #[.slice (some ⟨b, 0, none⟩) 2 2] w fun e w' => ∃ v, e = .returned v ∧ OF w' w.heap.size v (n1 + n2) F ∧ Below w.heap.size w w' := by
  obtain ⟨a1, c1, rfl, q1⟩ := id r1
  obtain ⟨a2, c2, rfl, q2⟩ := id r2
  clear q1 q2
  have R1 := Lib.hid r1
  have R2 := Lib.hid r2
  have S1 := Lib.hid s1
  have S2 := Lib.hid s2
  have E1 := Lib.hid e1
  have E2 := Lib.hid e2
  obtain ⟨M, hM⟩ : ∃ M, n1 + n2 = M := ⟨_, rfl⟩
  have HG : Hid (∀ w, Calls Tryd.prog 78 #[.slice none 0 0, .int .i64 (M : Int)] w fun e w' => ∃ v, e = .returned v ∧ OF w' w.heap.size v 0 F ∧ Below w.heap.size w w') := Lib.hid (fun w => by
    by_cases h : 0 < M
    · exact grow_any M w h (by omega) F
    · obtain rfl : M = 0 := by omega
      exact grow_none w F)
  have HM := Lib.hid hM
  have H1 := Lib.hid h1
  have H2 := Lib.hid h2
  have HB := Lib.hid hb
  have b1 : n1 ≤ 1000000 := by omega
  have b2 : n2 ≤ 1000000 := by omega
  have b3 : M ≤ 1000000 := by omega
  have l1 : ¬ ((n1 : Int) < 0) := by omega
  have l2 : ¬ ((M : Int) < 0) := by omega
  have l3 : IntKind.i64.wrap ((n1 : Int) + (n2 : Int)) = (M : Int) := by rw [← hM, Int.natCast_add]; exact IntWalk.i64_in _ (by omega)
  have l4 : (n1 : Int) + (n2 : Int) = (M : Int) := by rw [← hM, Int.natCast_add]
  rw [hM]
  clear r1 r2 s1 s2 e1 e2 hn hM hb
  go_enter Tryd.func69, Tryd.ntmps69
  go_wp2
  go_loop [3, 11] (fun s i => (i = .int .i64 0 ∧ s = .int .i64 0) ∨ (i = .int .i64 1 ∧ s = .int .i64 n1) ∨ (i = .int .i64 2 ∧ s = .int .i64 M)) (fun _ i => 2 - (intOf i).toNat)
  case atStart => exact .inl ⟨rfl, rfl⟩
  case round =>
    rcases hrel with ⟨rfl, rfl⟩ | ⟨rfl, rfl⟩ | ⟨rfl, rfl⟩
    · go_wp2
      go_round
      case rel => exact .inr (.inl ⟨rfl, by go_num⟩)
      case measure => simp [intOf]
    · go_wp2
      go_round
      case rel => exact .inr (.inr ⟨rfl, by go_num⟩)
      case measure => simp [intOf]
    · go_wp2_with fail
      refine (HG.out _).mono ?_
      rintro e w1 ⟨v, rfl, O1, n1'⟩
      clear h1 h2
      go_wp2
      go_loopw [6, 27] (fun v i wr => (∃ k : Nat, (i = .int .i64 0 ∧ k = 0 ∨ i = .int .i64 1 ∧ k = n1 ∨ i = .int .i64 2 ∧ k = M) ∧ OF wr w.heap.size v k F) ∧ Below w.heap.size w wr) (fun _ i _ => 2 - (intOf i).toNat)
      case atStart => exact ⟨⟨0, .inl ⟨rfl, rfl⟩, O1⟩, n1'⟩
      case round =>
        obtain ⟨⟨k, hk, rO⟩, rb⟩ := hrel
        clear O1 n1'
        have c1' := (rb.cell (p := ⟨b, 0, none⟩) HB.out).trans H1.out
        have c2' := (rb.cell (p := ⟨b, 1, none⟩) HB.out).trans H2.out
        have t1 := Lib.hid (R1.out.below rb)
        have t2 := Lib.hid (R2.out.below rb)
        have bs := rb.size
        rcases hk with ⟨rfl, rfl⟩ | ⟨rfl, rfl⟩ | ⟨rfl, rfl⟩
        · go_wp2_with (at_builtin; refine wpList_append_ints rfl (.tmp 31) (.tmp 32) rfl w.heap.size _ 0 F rfl rO _ n1 f1 rfl t1.out S1.out (by omega) bs ?_; intro v' w3 O3 g3; have c3 : Below w.heap.size w w3 := rb.grown g3 bs (fun q hq => (rO.lt q hq).1); have O4 := Lib.hid (O3.congr (g := F) (fun j hj => by rw [if_neg (Nat.not_lt_zero j), Nat.sub_zero]; exact E1.out j (by omega))); clear O3 g3 rO c1' c2' rb)
          go_roundw
          case rel => exact ⟨⟨n1, .inr (.inl ⟨rfl, rfl⟩), by have := O4.out; rwa [Nat.zero_add] at this⟩, c3⟩
          case measure => simp [intOf]
        · go_wp2_with (at_builtin; refine wpList_append_ints rfl (.tmp 31) (.tmp 32) rfl w.heap.size _ k F rfl rO _ n2 f2 rfl t2.out S2.out (by have := HM.out; omega) bs ?_; intro v' w3 O3 g3; have c3 : Below w.heap.size w w3 := rb.grown g3 bs (fun q hq => (rO.lt q hq).1); have O4 := Lib.hid (O3.congr (g := F) (fun j hj => by split; rfl; rename_i h; rw [E2.out (j - k) (by omega)]; congr 1; omega)); clear O3 g3 rO c1' c2' rb)
          go_roundw
          case rel => exact ⟨⟨M, .inr (.inr ⟨rfl, rfl⟩), by have := O4.out; rwa [HM.out] at this⟩, c3⟩
          case measure => simp [intOf]
        · go_wp2
          go_ret
          exact ⟨_, rfl, rO, rb⟩
theorem concat_any (b n1 n2 : Nat) (v1 v2 : Value) (f1 f2 F : Nat → Int) (w : World) (hb : b < w.heap.size) (h1 : w.cell? ⟨b, 0, none⟩ = some v1) (h2 : w.cell? ⟨b, 1, none⟩ = some v2)
    (r1 : IntsR w v1 n1 f1) (r2 : IntsR w v2 n2 f2) (s1 : v1 = .slice none 0 0 ∨ ∃ x c, v1 = .slice (some x) n1 c) (s2 : v2 = .slice none 0 0 ∨ ∃ x c, v2 = .slice (some x) n2 c) (hn : n1 + n2 ≤ 1000000) (h0 : 0 < n1 + n2)
    (e1 : ∀ j, j < n1 → f1 j = F j) (e2 : ∀ j, j < n2 → f2 j = F (n1 + j)) :
    Calls Tryd.prog 69 #[.slice (some ⟨b, 0, none⟩) 2 2] w fun e w' => ∃ v, e = .returned v ∧ OF w' w.heap.size v (n1 + n2) F ∧ Below w.heap.size w w' :=
  concat_all b n1 n2 v1 v2 f1 f2 F w hb h1 h2 r1 r2 s1 s2 hn e1 e2
end Go.Proofs.YtpacaelnmpdnhaaDoor
namespace Go.Proofs.YtpacaelnmpdnhaaDoor
open Go.RowKit
set_option linter.unusedVariables false
set_option maxRecDepth 100000
theorem step_append_ints {w : World} {ops : Array Oper} {o : Oper} {a : Act} {K : Act → World → Prop} {Q : Exit → Act → World → Prop} {E : Prop} (hgd : o.guard = none) (s x : Operand)
    (ho : o.op = .call { callee := .builtin .append, args := #[s, x], argTypes := #[31, 31] }) (B : Nat) (v : Value) (n : Nat) (f : Nat → Int) (hs : a.eval s = v) (hown : OF w B v n f)
    (ad : Addr) (m c : Nat) (g : Nat → Int) (hx : a.eval x = .slice (some ad) m c) (hu : IntsR w (.slice (some ad) m c) m g) (hn : n + m ≤ 1000000) (hB : B ≤ w.heap.size)
    (h : ∀ v' w', OF w' B v' (n + m) (fun j => if j < n then f j else g (j - n)) → w.grownBy w' v.ownBlock → K (a.put o.dst v') w') :
    if Region.wanted o (yielded ops a.tmps) = true then Oper.wp Tryd.prog o a w K Q else E := by
  have hw : Region.wanted o (yielded ops a.tmps) = true := by simp [Region.wanted, hgd]
  rw [if_pos hw]
  obtain ⟨i0, hi, hzz⟩ := Option.map_eq_some_iff.1 ints_info
  simp only [Prod.mk.injEq] at hzz
  obtain ⟨hz, hsz, hby⟩ := hzz
  have e : ((List.range (n + m)).map fun j => Value.int .i64 (if j < n then f j else g (j - n))) = ((List.range n).map fun j => Value.int .i64 (f j)) ++ ((List.range m).map fun j => Value.int .i64 (g j)) := by
    apply List.ext_getElem (by simp)
    intro j h1 h2
    simp at h1
    by_cases hj : j < n
    · rw [List.getElem_append_left (by simpa using hj)]; simp [hj]
    · rw [List.getElem_append_right (by simp; omega)]; simp [hj]
  obtain ⟨a', c', e1, hc⟩ := hu
  injection e1 with e1 _ _
  subst e1
  refine wp_append_own w s x 31 ho B 3 i0 (.int .i64 0) 1 8 (by kernel_rfl) hi hz hsz hby rfl (by decide) v n _ hs hown ad m c ((List.range m).map fun j => Value.int .i64 (g j)) hx (by simp) ?_ ?_ ?_ ?_ hB ?_
  · intro j y hj
    rw [List.getElem?_map] at hj
    by_cases hjm : j < m
    · rw [List.getElem?_range hjm] at hj
      simp at hj
      subst hj
      obtain ⟨x', e2, _, h3⟩ := hc j hjm
      injection e2 with e2
      subst e2
      exact h3
    · rw [List.getElem?_eq_none (by simp; omega)] at hj
      simp at hj
  · intro y hy
    simp at hy
    obtain ⟨j, _, rfl⟩ := hy
    rfl
  · unfold maxLen; omega
  · omega
  · intro v' w' h1 h2 _
    refine h v' w' ?_ h2
    unfold OF
    rw [e]; exact h1
end Go.Proofs.YtpacaelnmpdnhaaDoor
