/- Contracts of AperiodicOf, of both sides. Contracts of GoldBound, of both sides. Contracts of TreeConflict and BarkerValid, of both sides. The first place that is chosen. Contracts of FirstBarker, of both sides: binary digits as a text. -/
import Derived.Test.YtdafepfjjmdkeaaDoorSeqFun
import Derived.Test.YtdafepfjjmdkeaaDoorRegBase
namespace Go.Proofs.YtdafepfjjmdkeaaDoor
open Go.RowKit
set_option linter.unusedVariables false
theorem quiet_drew {P : Program} {f : FuncId} {args : Array Value} {w : World} {n : Nat} {v : Value}
    (h : Calls P f args (w.drewN n) fun e w' => e = .returned v ∧ ∃ m, w' = (w.drewN n).drewN m) : Calls P f args (w.drewN n) fun e w'' => e = .returned v ∧ ∃ m, w'' = w.drewN m :=
  h.mono fun _ _ ⟨he, m, hm⟩ => ⟨he, n + m, by rw [hm, World.drewN_drewN]⟩
def aperAns (z : ByteArray) (k : Int) : Int × Bool := if seqB z && (decide (0 ≤ k) && decide (k < z.size)) then (aperN z k.toNat, true) else noI
theorem aperAns_no {z : ByteArray} {k : Int} (h : ¬ (seqB z = true ∧ 0 ≤ k ∧ k < z.size)) : aperAns z k = noI := by
  unfold aperAns
  rw [if_neg]
  intro e
  simp only [Bool.and_eq_true, decide_eq_true_eq] at e
  exact h e
theorem aperAns_yes {z : ByteArray} {k : Nat} (h : seqB z = true) (hk : k < z.size) : aperAns z k = (aperN z k, true) := by
  unfold aperAns
  rw [if_pos (by simp only [Bool.and_eq_true, decide_eq_true_eq]; exact ⟨h, by omega, by omega⟩)]
  rfl
theorem aper_cut (z : ByteArray) (k : Nat) (hk : k < z.size) : sumI (fun i => agr (zb (z.extract 0 (z.size - k)) i) (zb (z.extract k z.size) i)) (z.extract 0 (z.size - k)).size = aperN z k := by
  have s1 := size_extract z 0 (z.size - k) (by omega)
  rw [s1]
  exact sumI_congr _ fun i hi => by rw [zb_extract _ _ _ _ (by omega) (by omega), zb_extract _ _ _ _ (by omega) (by omega), Nat.zero_add]
end Go.Proofs.YtdafepfjjmdkeaaDoor
namespace Go.Proofs.YtdafepfjjmdkeaaDoor
open Go.RowKit
set_option linter.unusedVariables false
/-- The greatest correlation of Gold codes. -/
def goldA (S : Int) : Int := if 2 ≤ S ∧ S ≤ 8 then 1 + (tw ((S.toNat + 2) / 2) : Nat) else -1
theorem goldA_no {S : Int} (h : ¬ (2 ≤ S ∧ S ≤ 8)) : -1 = goldA S := by unfold goldA; rw [if_neg h]
end Go.Proofs.YtdafepfjjmdkeaaDoor
namespace Go.Proofs.YtdafepfjjmdkeaaDoor
open Go.RowKit
set_option linter.unusedVariables false
/-- A path: at most 6 bits. -/
def pathB (z : ByteArray) : Bool := okB z z.size && decide (z.size ≤ 6)
theorem pathB_iff (z : ByteArray) : pathB z = true ↔ okB z z.size = true ∧ z.size ≤ 6 := by unfold pathB; simp only [Bool.and_eq_true, decide_eq_true_eq]
theorem path_bits {z : ByteArray} (h : z.size ≤ 6) : bitsB z = pathB z := by unfold bitsB pathB; rw [decide_eq_true (by omega : z.size ≤ 600), decide_eq_true h]
theorem path_long {z : ByteArray} (h : ¬ z.size ≤ 6) : false = pathB z := by unfold pathB; rw [decide_eq_false h, Bool.and_false]
theorem path_nobits {z : ByteArray} (h : bitsB z = false) : false = pathB z := by
  by_cases h6 : z.size ≤ 6
  · rw [← path_bits h6, h]
  · exact path_long h6
theorem path_okbits {z : ByteArray} (h : bitsB z = true) : decide ((z.size : Int) ≤ 6) = pathB z := by
  unfold bitsB at h
  simp only [Bool.and_eq_true] at h
  unfold pathB
  rw [h.1, Bool.true_and, decide_eq_decide]; omega
/-- The shorter one is the beginning of the other one. -/
def begB (p q : ByteArray) : Bool := if p.size ≤ q.size then p.toList == (q.extract 0 p.size).toList else (p.extract 0 q.size).toList == q.toList
def confB (p q : ByteArray) : Bool := pathB p && (pathB q && begB p q)
/-- The correlations without repetition from 1 to n - 1 are small. -/
def smallB (x : Int) : Bool := decide (-1 ≤ x) && decide (x ≤ 1)
def barkTo (z : ByteArray) (n : Nat) : Bool := (List.range n).all fun k => k == 0 || smallB (aperN z k)
def barkB (z : ByteArray) : Bool := seqB z && barkTo z z.size
theorem barkTo_one (z : ByteArray) : barkTo z 1 = true := rfl
theorem barkTo_succ (z : ByteArray) (k : Nat) (h : 0 < k) : barkTo z (k + 1) = (barkTo z k && smallB (aperN z k)) := by
  unfold barkTo
  rw [List.range_succ, List.all_append]
  have : (k == 0) = false := by simp; omega
  simp [this]
theorem barkTo_bad (z : ByteArray) (k n : Nat) (h0 : 0 < k) (hk : k < n) (h : smallB (aperN z k) = false) : barkTo z n = false := by
  unfold barkTo
  rw [List.all_eq_false]
  refine ⟨k, List.mem_range.2 hk, ?_⟩
  have : (k == 0) = false := by simp; omega
  simp [this, h]
theorem small_iff (x : Int) : smallB x = true ↔ -1 ≤ x ∧ x ≤ 1 := by unfold smallB; simp only [Bool.and_eq_true, decide_eq_true_eq]
end Go.Proofs.YtdafepfjjmdkeaaDoor
namespace Go.Proofs.YtdafepfjjmdkeaaDoor
/-- The first place that is chosen, n if none is. -/
def firstN (p : Nat → Bool) : Nat → Nat
  | 0 => 0
  | k + 1 => if firstN p k < k then firstN p k else if p k then k else k + 1
theorem firstN_le (p : Nat → Bool) : ∀ k, firstN p k ≤ k
  | 0 => Nat.le_refl _
  | k + 1 => by have := firstN_le p k; simp only [firstN]; split; omega; split <;> omega
theorem firstN_none {p : Nat → Bool} : ∀ {k : Nat}, firstN p k = k → ∀ i, i < k → p i = false
  | 0, _, i, hi => by omega
  | k + 1, h, i, hi => by
    have hb := firstN_le p k
    simp only [firstN] at h
    split at h
    · omega
    · split at h
      · omega
      · next h1 h2 =>
        by_cases e : i = k
        · subst e; simpa using h2
        · exact firstN_none (k := k) (by omega) i (by omega)
theorem firstN_step {p : Nat → Bool} {k : Nat} (h : firstN p k = k) (hp : p k = false) : firstN p (k + 1) = k + 1 := by simp [firstN, h, hp]
theorem firstN_hit {p : Nat → Bool} {k : Nat} (h : firstN p k = k) (hp : p k = true) : ∀ n, k < n → firstN p n = k
  | 0, hn => by omega
  | n + 1, hn => by
    by_cases e : n = k
    · subst e; simp [firstN, h, hp]
    · have ih := firstN_hit h hp n (by omega)
      simp only [firstN, ih]
      rw [if_pos (by omega)]
end Go.Proofs.YtdafepfjjmdkeaaDoor
namespace Go.Proofs.YtdafepfjjmdkeaaDoor
open Go.RowKit
set_option linter.unusedVariables false
theorem tw_60 (s : Nat) (h : s ≤ 60) : tw s ≤ 1152921504606846976 := Nat.pow_le_pow_right (n := 2) (by omega) h
theorem wrap_tw60 (s : Nat) (h : s ≤ 60) : wrap64 ((2 : Int) ^ s) = ((tw s : Nat) : Int) := by
  rw [int_tw]
  have := tw_60 s h
  exact IntWalk.wrap64_in _ (by omega)
theorem strF_snoc (n : Nat) (f : Nat → Nat) (d : Nat) (hd : d = f n) (hf : ∀ i, f i < 256) : strF n f ++ strF 1 (fun _ => d) = strF (n + 1) f := by
  subst hd
  apply strF_of
  · rw [ByteArray.size_append, strF_size, strF_size]
  · intro i hi
    by_cases h : i < n
    · rw [zb_append_left _ _ _ (by rw [strF_size]; exact h), zb_strF h (hf _)]
    · obtain rfl : i = n := by omega
      have e1 := zb_strF (n := 1) (f := fun _ => f i) (i := i - i) (by omega) (hf i)
      rw [zb_append_right _ _ _ (by rw [strF_size]; exact Nat.le_refl _) (by rw [strF_size, strF_size]; omega), strF_size, e1]
theorem app_empty (z : ByteArray) : z ++ (⟨#[]⟩ : ByteArray) = z := by
  apply ba_ext
  · rw [ByteArray.size_append]; rfl
  · intro i hi
    rw [ByteArray.size_append] at hi
    exact zb_append_left _ _ _ (by have : (⟨#[]⟩ : ByteArray).size = 0 := rfl; omega)
/-- The binary digits of a number, the highest one first. -/
def digF (n c : Nat) (i : Nat) : Nat := 48 + n / tw (c - 1 - i) % 2
def digS (n c : Nat) : ByteArray := strF c (digF n c)
theorem digF_lt (n c i : Nat) : digF n c i < 256 := by unfold digF; omega
theorem digS_size (n c : Nat) : (digS n c).size = c := strF_size _ _
set_option maxRecDepth 100000 in
theorem l9Dec_bit (n : Nat) (w : World) (hn : n ≤ 9) : Calls Tryd.prog 68 #[.int .i64 n] w fun e w' => e = .returned (.string (strF 1 (fun _ => 48 + n))) ∧ Below w.heap.size w w' := by
  obtain ⟨V, hV⟩ : ∃ V, 48 + n = V := ⟨_, rfl⟩
  have v1 : (48 : Int) + (n : Int) = (V : Int) := by omega
  have v2 : IntKind.u8.wrap (V : Int) = (V : Int) := IntWalk.u8_in _ (by omega)
  have hB : Bytes (w.alloc (.cells #[.int .u8 (V : Nat)] 5)) w.heap.size 5 1 (fun _ => V) := World.rowIs_alloc w #[.int .u8 (V : Nat)] 5 _ (fun i hi => by
    obtain rfl : i = 0 := by simp at hi; omega
    rfl)
  have hst := fun cap => hB.str (P := Tryd.prog) 31 5 9 (by kernel_rfl) (by kernel_rfl) (by kernel_rfl) 0 1 cap (by omega)
  rw [hV]
  obtain ⟨y, hy⟩ : ∃ y, strF 1 (fun _ => V) = y := ⟨_, rfl⟩
  have hys : y.size = 1 := by rw [← hy]; exact strF_size _ _
  rw [hy] at hst ⊢
  have hy2 : y.size + ByteArray.size ⟨#[]⟩ ≤ 9223372036854775807 := by rw [hys]; decide
  clear hy hB hys hV
  go_enter Tryd.func68, Tryd.ntmps68
  go_wp2
  go_loop [0, 3] (fun i s => i = .int .i64 n ∧ s = .string ⟨#[]⟩) (fun i _ => (intOf i).toNat)
  case atStart => exact ⟨rfl, rfl⟩
  case round =>
    obtain ⟨rfl, rfl⟩ := hrel
    go_wp2
    go_ret
    exact ⟨ret_str (app_empty y), (Below.refl _ _).alloc (Nat.le_refl _) _⟩
theorem dig_value (n d : Nat) (hn : n ≤ 1152921504606846976) : ∃ D B : Nat, (n : Int) / 2 ^ d = (D : Int) ∧ bits .and .i64 (D : Int) 1 = (B : Int) ∧ B < 2 ∧ 48 + n / tw d % 2 = 48 + B := by
  have h3 := Nat.div_le_self n (tw d)
  refine ⟨n / tw d, n / tw d % 2, ?_, and64_one _ (by omega), by omega, rfl⟩
  rw [int_tw]; exact (Int.natCast_ediv _ _).symm
set_option maxRecDepth 100000 in
theorem digitsOf_any (n c : Nat) (w : World) (hn : n ≤ 1152921504606846976) (hc : c ≤ 60) :
    Calls Tryd.prog 46 #[.int .i64 n, .int .i64 c] w fun e w' => e = .returned (.string (digS n c)) ∧ Below w.heap.size w w' := by
  have hmk := make_bytes c (by omega) (by omega)
  go_enter Tryd.func46, Tryd.ntmps46
  go_wp2
  go_loopw [11] (fun i wr => ∃ k : Nat, k ≤ c ∧ i = .int .i64 k ∧ Bytes wr w.heap.size 5 c (fun v => if v < k then digF n c v else 0) ∧ Below w.heap.size w wr) (fun i _ => c - (intOf i).toNat)
  case atStart => exact ⟨0, by omega, rfl, Bytes.congr (Bytes.new rfl) (fun v _ => by simp), (Below.refl _ _).alloc (Nat.le_refl _) _⟩
  case round =>
    obtain ⟨k, hk, rfl, rB, rb⟩ := hrel
    clear hmk
    by_cases hlt : k < c
    · obtain ⟨D, B, v1, v2, hB2, v3⟩ := dig_value n (c - 1 - k) hn
      have e1 : ((c : Int) - 1 - (k : Int)).toNat = c - 1 - k := by omega
      obtain ⟨V, hV⟩ : ∃ V, 48 + B = V := ⟨_, rfl⟩
      have v4 : (48 : Int) + (B : Int) = (V : Int) := by omega
      have hVV : digF n c k = V := by unfold digF; rw [v3, hV]
      have hc := rB.cell k hlt
      have hf := World.rowIs.frozen rB k
      have i0 : (0 : Int) ≤ (k : Int) := by omega
      have i1 : (k : Int) < (c : Int) := by omega
      have hV2 : V < 50 := by omega
      have nB : Hid (Bytes (wr.setCell ⟨w.heap.size, k, none⟩ (.int .u8 (V : Nat))) w.heap.size 5 c (fun v => if v < k + 1 then digF n c v else 0)) :=
        row_step (F := fun v => digF n c v) rB hVV
      have nb : Hid (Below w.heap.size w (wr.setCell ⟨w.heap.size, k, none⟩ (.int .u8 (V : Nat)))) := Lib.hid (bytes_below rb (Nat.le_refl _) _ _)
      clear hV hVV v3 rB rb
      go_wp2
      clear v1 v2 v4
      go_roundw
      case rel => exact ⟨k + 1, by omega, by go_num, nB.out, nb.out⟩
      case measure => simp [intOf]; omega
    · obtain rfl : k = c := by omega
      have hst := fun cap => rB.str (P := Tryd.prog) 31 5 9 (by kernel_rfl) (by kernel_rfl) (by kernel_rfl) 0 k cap (by omega)
      obtain ⟨y, hy⟩ : ∃ y, strF k (fun i => if 0 + i < k then digF n k (0 + i) else 0) = y := ⟨_, rfl⟩
      rw [hy] at hst
      have HY : Hid (y = digS n k) := Lib.hid (by rw [← hy]; exact strF_congr fun i hi => by simp [hi])
      clear hy
      go_wp2
      go_ret
      exact ⟨ret_str HY.out, rb⟩
/-- The first Barker code of a length. -/
def barkP (c : Nat) (i : Nat) : Bool := barkB (digS i c)
def firstBark (N : Int) : ByteArray × Bool :=
  if 1 ≤ N ∧ N ≤ 13 then (if firstN (barkP N.toNat) (tw N.toNat) < tw N.toNat then (digS (firstN (barkP N.toNat) (tw N.toNat)) N.toNat, true) else noS) else noS
theorem firstBark_no {N : Int} (h : ¬ (1 ≤ N ∧ N ≤ 13)) : firstBark N = noS := by unfold firstBark; rw [if_neg h]
theorem firstBark_hit {c k : Nat} (h1 : 1 ≤ c) (h2 : c ≤ 13) (hk : k < tw c) (h : firstN (barkP c) k = k) (hp : barkP c k = true) : firstBark (c : Int) = (digS k c, true) := by
  unfold firstBark
  rw [if_pos (by omega), Int.toNat_natCast, firstN_hit h hp (tw c) hk, if_pos hk]
theorem firstBark_none {c : Nat} (h : firstN (barkP c) (tw c) = tw c) : firstBark (c : Int) = noS := by
  unfold firstBark
  rw [Int.toNat_natCast, h, if_neg (Nat.lt_irrefl _)]
  split <;> rfl
theorem ret_sAns {A : ByteArray × Bool} {x : ByteArray} {c : Bool} (h : A = (x, c)) : Ending.returned (.tuple #[.string x, .bool c]) = .returned (.tuple #[.string A.1, .bool A.2]) := by rw [h]
theorem sdig_value (x d : Nat) (hx : x ≤ 8192) (hd : d ≤ 13) : ∃ D B : Nat, IntKind.i64.wrap ((x : Int) / ((tw d : Nat) : Int)) = (D : Int) ∧ (D : Int) % 2 = (B : Int) ∧ B < 2 ∧ 48 + x / tw d % 2 = 48 + B := by
  have h3 := Nat.div_le_self x (tw d)
  refine ⟨x / tw d, x / tw d % 2, ?_, (Int.natCast_emod _ 2).symm, by omega, rfl⟩
  rw [← Int.natCast_ediv]
  obtain ⟨D, hD⟩ : ∃ D, x / tw d = D := ⟨_, rfl⟩
  rw [hD] at h3 ⊢
  exact IntWalk.i64_in _ (by omega)
end Go.Proofs.YtdafepfjjmdkeaaDoor
