/- WorstCross of both sides, and the walk of its exact law. -/
import Derived.Test.YtijoemoiimfffaaFamFree2
import Derived.Test.YtijoemoiimfffaaStrFrame
import Derived.Test.YtijoemoiimfffaaIntsBig
import Derived.Test.YtijoemoiimfffaaSeqSum
import Derived.Deep.RegionHeld3
namespace Go.Proofs.Ytijoemoiimfffaa
open Go.RowKit
set_option linter.unusedVariables false
def abI (x : Int) : Int := max x (-x)
/-- The greatest of some numbers without regard to signs, and of one before them. -/
def mxA (acc : Int) (g : Nat → Int) : Nat → Int
  | 0 => acc
  | n + 1 => max (mxA acc g n) (abI (g n))
theorem abI_nonneg (x : Int) : 0 ≤ abI x := by unfold abI; omega
theorem mxA_le (acc : Int) (g : Nat → Int) : ∀ n, acc ≤ mxA acc g n
  | 0 => Int.le_refl _
  | n + 1 => by have := mxA_le acc g n; simp only [mxA]; omega
theorem mxA_acc (acc : Int) (h : 0 ≤ acc) (g : Nat → Int) : ∀ n, mxA acc g n = max acc (mxA 0 g n)
  | 0 => by simp only [mxA]; omega
  | n + 1 => by simp only [mxA]; rw [mxA_acc acc h g n]; omega
theorem mxA_congr {acc : Int} {f g : Nat → Int} : ∀ n, (∀ i, i < n → f i = g i) → mxA acc f n = mxA acc g n
  | 0, _ => rfl
  | n + 1, h => by simp only [mxA]; rw [mxA_congr n (fun i hi => h i (by omega)), h n (by omega)]
theorem mxA_tail (g : Nat → Int) (h : g 0 = 0) : ∀ n, mxA 0 g (n + 1) = mxA 0 (fun j => g (1 + j)) n
  | 0 => by simp only [mxA]; rw [h]; rfl
  | n + 1 => by
    rw [mxA, mxA_tail g h n]
    simp only [mxA]
    rw [show 1 + n = n + 1 by omega]
theorem mxA_bd {g : Nat → Int} {M : Int} (hM : 0 ≤ M) : ∀ n, (∀ i, i < n → -M ≤ g i ∧ g i ≤ M) → mxA 0 g n ≤ M
  | 0, _ => hM
  | n + 1, h => by
    have h1 := mxA_bd hM n (fun i hi => h i (by omega))
    have h2 := h n (by omega)
    simp only [mxA]
    unfold abI
    omega
set_option maxRecDepth 100000 in
theorem greatest_any (a : Option Addr) (cap n : Nat) (f : Nat → Int) (w : World) (hc : ∀ i, i < n → ∃ x : Addr, a = some x ∧ x.block < w.heap.size ∧ w.cell? (x.add i) = some (.int .i64 (f i))) (hn : n ≤ 1000) (hf : ∀ i, i < n → -1000 ≤ f i ∧ f i ≤ 1000) :
    Calls Try.prog 76 #[.slice a n cap] w fun e w' => e = .returned (.int .i64 (mxA 0 f n)) ∧ w = w' := by
  have HC := Lib.hid hc
  have HF := Lib.hid hf
  have HB := Lib.hid (fun k (hk : k ≤ n) => mxA_bd (g := f) (M := 1000) (by omega) k (fun i hi => hf i (by omega)))
  have HL := Lib.hid (fun k => mxA_le 0 f k)
  clear hc hf
  go_enter Try.func76, Try.ntmps76
  go_wp2
  go_loop [3, 8] (fun m i => ∃ k : Nat, k ≤ n ∧ i = .int .i64 k ∧ m = .int .i64 (mxA 0 f k)) (fun _ i => n - (intOf i).toNat)
  case atStart => exact ⟨0, by omega, rfl, rfl⟩
  case round =>
    obtain ⟨k, hk, rfl, rfl⟩ := hrel
    by_cases hlt : k < n
    · obtain ⟨x, rfl, hx, hcc⟩ := HC.out k hlt
      obtain ⟨f1, f2⟩ := HF.out k hlt
      have m1 := HB.out k hk
      have m0 := HL.out k
      have hstep : mxA 0 f (k + 1) = max (mxA 0 f k) (max (f k) (-(f k))) := rfl
      obtain ⟨y, hy⟩ : ∃ y, f k = y := ⟨_, rfl⟩
      rw [hy] at hcc f1 f2 hstep
      obtain ⟨M, hM⟩ : ∃ M, mxA 0 f k = M := ⟨_, rfl⟩
      rw [hM] at m1 m0 hstep ⊢
      have HS := Lib.hid hstep
      have i0 : (0 : Int) ≤ (k : Int) := by omega
      have i1 : (k : Int) < (n : Int) := by omega
      clear hy hM hstep hx
      go_wp2
      go_round
      case rel => exact ⟨k + 1, by omega, by go_num, by rw [HS.out]; congr 1; omega⟩
      case measure => simp [intOf]; omega
    · obtain rfl : k = n := by omega
      go_wp2
      go_ret
      exact ⟨rfl, rfl⟩
def allP (n : Nat) (f : Nat → ByteArray) : Bool := (List.range n).all fun j => pairB (f j) (f 0)
theorem allP_succ (n : Nat) (f : Nat → ByteArray) : allP (n + 1) f = (allP n f && pairB (f n) (f 0)) := by unfold allP; rw [List.range_succ, List.all_append]; simp
theorem allP_bad {n k : Nat} {f : Nat → ByteArray} (hk : k < n) (h : pairB (f k) (f 0) = false) : allP n f = false := by
  unfold allP
  rw [List.all_eq_false]
  exact ⟨k, List.mem_range.2 hk, by rw [h]; simp⟩
theorem allP_at {n k : Nat} {f : Nat → ByteArray} (h : allP n f = true) (hk : k < n) : pairB (f k) (f 0) = true := by
  unfold allP at h
  exact List.all_eq_true.1 h k (List.mem_range.2 hk)
def famB (n : Nat) (f : Nat → ByteArray) : Bool := decide (1 ≤ n) && (decide (n ≤ 70) && allP n f)
theorem SF.put {w : World} {B : Nat} {v : Value} {n : Nat} {f : Nat → ByteArray} (h : SF w B v n f) : ∃ a cap, v = .slice a n cap ∧ ∀ i, i < n → ∃ g, a = some ⟨g, 0, none⟩ ∧ g < w.heap.size ∧ w.cell? ⟨g, i, none⟩ = some (.string (f i)) := by
  obtain ⟨a, cap, rfl, ha⟩ := h.form
  exact ⟨a, cap, rfl, fun i hi => by obtain ⟨g, e, _, h2, h3⟩ := ha (by omega); exact ⟨g, e, h2, (h3 i hi).1⟩⟩
set_option maxRecDepth 100000 in
theorem codes_any (v : Value) (B n : Nat) (f : Nat → ByteArray) (w : World) (h : SF w B v n f) (hn : n ≤ 1048576) (hf : ∀ i, i < n → (f i).size ≤ 1048576) :
    Calls Try.prog 75 #[v] w fun e w' => e = .returned (.bool (famB n f)) ∧ w = w' := by
  obtain ⟨a, cap, rfl, hc⟩ := h.put
  have HC := Lib.hid hc
  have HF := Lib.hid hf
  clear hc hf h
  by_cases h0 : n = 0
  · subst h0
    rw [show famB 0 f = false by rfl]
    go_enter Try.func75, Try.ntmps75
    go_wp2
    go_ret
    exact ⟨rfl, rfl⟩
  · have h00 : ((n : Int) == 0) = false := by rw [beq_eq_false_iff_ne]; omega
    by_cases h7 : 70 < n
    · have h70 : (70 : Int) < (n : Int) := by omega
      rw [show famB n f = false by unfold famB; rw [decide_eq_false (show ¬ n ≤ 70 by omega)]; simp]
      go_enter Try.func75, Try.ntmps75
      go_wp2
      go_ret
      exact ⟨rfl, rfl⟩
    · have h70 : ¬ ((70 : Int) < (n : Int)) := by omega
      go_enter Try.func75, Try.ntmps75
      go_wp2
      go_loop [15] (fun i => ∃ k : Nat, k ≤ n ∧ i = .int .i64 k ∧ Hid (allP k f = true)) (fun i => n - (intOf i).toNat)
      case atStart => exact ⟨0, by omega, rfl, Lib.hid rfl⟩
      case round =>
        obtain ⟨k, hk, rfl, rI⟩ := hrel
        by_cases hlt : k < n
        · obtain ⟨g, rfl, hx, hcc⟩ := HC.out k hlt
          obtain ⟨g0, e0, -, hc0⟩ := HC.out 0 (by omega)
          injection e0 with e0
          injection e0 with e0
          subst e0
          have hs := HF.out k hlt
          have hs0 := HF.out 0 (by omega)
          have hP := fun w => iPair_any (f k) (f 0) w (by omega) (by omega)
          have hsu := allP_succ k f
          have hbad := allP_bad (f := f) hlt
          rw [rI.out, Bool.true_and] at hsu
          obtain ⟨b, hb⟩ : ∃ b, pairB (f k) (f 0) = b := ⟨_, rfl⟩
          rw [hb] at hP hsu hbad
          obtain ⟨y, hy⟩ : ∃ y, f k = y := ⟨_, rfl⟩
          obtain ⟨y0, hy0⟩ : ∃ y, f 0 = y := ⟨_, rfl⟩
          rw [hy] at hcc
          rw [hy, hy0] at hP
          rw [hy0] at hc0
          have i0 : (0 : Int) ≤ (k : Int) := by omega
          have i1 : (k : Int) < (n : Int) := by omega
          have i2 : (0 : Int) < (n : Int) := by omega
          have HP := Lib.hid hP
          clear hy hy0 hP hx hs hs0 hb
          go_wp2_with fail
          refine (HP.out _).mono ?_
          rintro e w' ⟨rfl, rfl⟩
          cases b with
          | false =>
            have HB : Hid (false = famB n f) := Lib.hid (by unfold famB; rw [hbad rfl]; simp)
            clear hsu hbad rI
            go_wp2
            go_ret
            exact ⟨ret_bool HB.out, rfl⟩
          | true =>
            have HB := Lib.hid hsu
            clear hsu hbad rI
            go_wp2
            go_round
            case rel => exact ⟨k + 1, by omega, by go_num, HB⟩
            case measure => simp [intOf]; omega
        · obtain rfl : k = n := by omega
          have HB : Hid (true = famB k f) := Lib.hid (by unfold famB; rw [rI.out, decide_eq_true (show 1 ≤ k by omega), decide_eq_true (show k ≤ 70 by omega)]; rfl)
          clear rI
          go_wp2
          go_ret
          exact ⟨ret_bool HB.out, rfl⟩
set_option maxRecDepth 100000 in
theorem family3_any (v : Value) (B n : Nat) (f : Nat → ByteArray) (w : World) (h : SF w B v n f) (hn : n ≤ 1048576) (hf : ∀ i, i < n → (f i).size ≤ 1048576) :
    Calls Try.prog 73 #[v] w fun e w' => e = .returned (.bool (famB n f)) ∧ ∃ m, w' = w.drewN m := by
  obtain ⟨a, cap, rfl, hc⟩ := h.put
  have HC := Lib.hid hc
  have HF := Lib.hid hf
  have HI := Lib.hid (fun w => l1In_any (n : Int) 1 70 w)
  clear hc hf h
  go_enter Try.func73, Try.ntmps73
  go_wp2
  go_loopw [3] (fun i wr => ∃ k m : Nat, k ≤ n ∧ i = .int .i64 k ∧ Hid (allP k f = true) ∧ wr = w.drewN m) (fun i _ => n - (intOf i).toNat)
  case atStart => exact ⟨0, 0, by omega, rfl, Lib.hid rfl, rfl⟩
  case round =>
    obtain ⟨k, m, hk, rfl, rI, rfl⟩ := hrel
    by_cases hlt : k < n
    · obtain ⟨g, rfl, hx, hcc'⟩ := HC.out k hlt
      obtain ⟨g0, e0, -, hc0'⟩ := HC.out 0 (by omega)
      injection e0 with e0
      injection e0 with e0
      subst e0
      have hcc : (w.drewN m).cell? ⟨g, k, none⟩ = some (.string (f k)) := hcc'
      have hc0 : (w.drewN m).cell? ⟨g, 0, none⟩ = some (.string (f 0)) := hc0'
      have hs := HF.out k hlt
      have hs0 := HF.out 0 (by omega)
      have hP := fun w => sPair_any (f k) (f 0) w (by omega) (by omega)
      have hsu := allP_succ k f
      have hbad := allP_bad (f := f) hlt
      rw [rI.out, Bool.true_and] at hsu
      obtain ⟨b, hb⟩ : ∃ b, pairB (f k) (f 0) = b := ⟨_, rfl⟩
      rw [hb] at hP hsu hbad
      obtain ⟨y, hy⟩ : ∃ y, f k = y := ⟨_, rfl⟩
      obtain ⟨y0, hy0⟩ : ∃ y, f 0 = y := ⟨_, rfl⟩
      rw [hy] at hcc
      rw [hy, hy0] at hP
      rw [hy0] at hc0
      obtain ⟨V, hV⟩ : ∃ V, w.drewN m = V := ⟨_, rfl⟩
      rw [hV] at hcc hc0 ⊢
      have HV := Lib.hid hV
      have i0 : (0 : Int) ≤ (k : Int) := by omega
      have i1 : (k : Int) < (n : Int) := by omega
      have i2 : (0 : Int) < (n : Int) := by omega
      have HP := Lib.hid hP
      clear hy hy0 hP hx hs hs0 hb hV hcc' hc0'
      cases b with
      | false =>
        have HB : Hid (false = famB n f) := Lib.hid (by unfold famB; rw [hbad rfl]; simp)
        clear hsu hbad rI
        go_wp2_with fail
        go_quiet ((go_at_call 89; exact quiet_same (HP.out _)))
        go_wp2
        go_ret
        exact ⟨ret_bool HB.out, m + nq, by rw [← HV.out, World.drewN_drewN]⟩
      | true =>
        have HB := Lib.hid hsu
        clear hsu hbad rI
        go_wp2_with fail
        go_quiet ((go_at_call 89; exact quiet_same (HP.out _)))
        clear hcc hc0
        go_wp2
        go_roundw
        case rel => exact ⟨k + 1, m + nq, by omega, by go_num, HB, by rw [← HV.out, World.drewN_drewN]⟩
        case measure => simp [intOf]; omega
    · obtain rfl : k = n := by omega
      have HB : Hid ((decide ((1 : Int) ≤ (k : Int)) && decide ((k : Int) ≤ 70)) = famB k f) := Lib.hid (by
        unfold famB
        rw [rI.out, Bool.and_true]
        congr 1 <;> exact decide_eq_decide.2 (by omega))
      clear rI
      go_wp2_with fail
      refine (HI.out _).mono ?_
      rintro e w' ⟨rfl, rfl⟩
      go_wp2
      go_ret
      exact ⟨ret_bool HB.out, m, rfl⟩
theorem pair_of {a b c : ByteArray} (h1 : pairB a c = true) (h2 : pairB b c = true) : pairB a b = true := by
  obtain ⟨a1, a2, a3⟩ := (pairB_iff a c).1 h1
  obtain ⟨b1, b2, b3⟩ := (pairB_iff b c).1 h2
  exact (pairB_iff a b).2 ⟨a1, b1, by omega⟩
/-- A correlation that counts; the greatest of a pair, of a row, and of all. -/
def ecr (f : Nat → ByteArray) (i k s : Nat) : Int := if i = k ∧ s = 0 then 0 else crossN (f i) (f k) s
def grW (f : Nat → ByteArray) (L i k : Nat) : Int := mxA 0 (ecr f i k) L
def rowW (f : Nat → ByteArray) (L : Nat) (acc : Int) (i : Nat) : Nat → Int
  | 0 => acc
  | d + 1 => max (rowW f L acc i d) (grW f L i (i + d))
def allW (f : Nat → ByteArray) (L n : Nat) : Nat → Int
  | 0 => 0
  | i + 1 => rowW f L (allW f L n i) i (n - i)
def worstAns (n : Nat) (f : Nat → ByteArray) : Int := if famB n f then allW f (f 0).size n n else -1
theorem grW_nonneg (f : Nat → ByteArray) (L i k : Nat) : 0 ≤ grW f L i k := mxA_le 0 _ L
theorem rowW_le (f : Nat → ByteArray) (L : Nat) (acc : Int) (i : Nat) : ∀ d, acc ≤ rowW f L acc i d
  | 0 => Int.le_refl _
  | d + 1 => by have := rowW_le f L acc i d; simp only [rowW]; omega
theorem allW_nonneg (f : Nat → ByteArray) (L n : Nat) : ∀ i, 0 ≤ allW f L n i
  | 0 => Int.le_refl _
  | i + 1 => by have := allW_nonneg f L n i; have := rowW_le f L (allW f L n i) i (n - i); simp only [allW]; omega
theorem grW_same (f : Nat → ByteArray) (L i : Nat) : grW f (L + 1) i i = mxA 0 (fun j => crossN (f i) (f i) (1 + j)) L := by
  unfold grW
  rw [mxA_tail _ (by unfold ecr; rw [if_pos ⟨rfl, rfl⟩])]
  exact mxA_congr L fun j _ => by unfold ecr; rw [if_neg (by omega)]
theorem grW_else (f : Nat → ByteArray) (L i k : Nat) (h : i ≠ k) : grW f L i k = mxA 0 (fun j => crossN (f i) (f k) j) L :=
  mxA_congr L fun j _ => by unfold ecr; rw [if_neg (by omega)]
theorem addr_add (g o i : Nat) : (⟨g, o, none⟩ : Addr).add i = ⟨g, o + i, none⟩ := by unfold Addr.add; split <;> simp_all
theorem int_elem (w : World) : (sizeOf (Try.prog.elem 30)).run Try.prog w = .ok 1 w := by kernel_rfl
theorem str_elem (w : World) : (sizeOf (Try.prog.elem 37)).run Try.prog w = .ok 1 w := by kernel_rfl
theorem tail_ints {w : World} {B : Nat} {v : Value} {n : Nat} {f : Nat → Int} (h : OF w B v n f) (l : Nat) (hl : l ≤ n) : ∃ a' cap', (∀ w1, (Instr.sliceAt 30 v (some (.int .i64 (l : Int))) none none).run Try.prog w1 = .ok (.slice a' (n - l) cap') w1) ∧
    ∀ i, i < n - l → ∃ x : Addr, a' = some x ∧ x.block < w.heap.size ∧ w.cell? (x.add i) = some (.int .i64 (f (l + i))) := by
  have hc := h.form
  obtain ⟨h1, ⟨rfl, rfl⟩ | ⟨g, cap, cur, rfl, hB, hg, hn, hm, hs, ht⟩⟩ := h
  · obtain rfl : l = 0 := by omega
    exact ⟨_, _, fun w1 => by rw [run_sliceAt_slice w1 30 _ _ _ _ (by kernel_rfl), run_slice_l w1 30 none 0 0 (by kernel_rfl) .i64 _ (by omega) (by omega), int_elem]; rfl, fun i hi => absurd hi (Nat.not_lt_zero i)⟩
  · refine ⟨if cap = l then some ⟨g, 0, none⟩ else some ⟨g, l, none⟩, cap - l, fun w1 => ?_, fun i hi => ?_⟩
    · rw [run_sliceAt_slice w1 30 _ _ _ _ (by kernel_rfl), run_slice_l w1 30 _ n cap (by kernel_rfl) .i64 _ (by omega) (by omega), int_elem]
      simp [Result.andThen, sliced, addr_add]
    · obtain ⟨a', cap', hf1, hf2⟩ := hc
      obtain ⟨g', rfl, _, hgl, hcc⟩ := hf2 (by omega)
      injection hf1 with e1
      injection e1 with e1
      injection e1 with e1
      subst e1
      refine ⟨⟨g, l, none⟩, by rw [if_neg (by omega)], hgl, ?_⟩
      have := (hcc (l + i) (by omega)).1
      rw [addr_add]; exact this
theorem tail_strs {w : World} {B : Nat} {v : Value} {n : Nat} {f : Nat → ByteArray} (h : SF w B v n f) (l : Nat) (hl : l ≤ n) : ∃ a' cap', (∀ w1, (Instr.sliceAt 37 v (some (.int .i64 (l : Int))) none none).run Try.prog w1 = .ok (.slice a' (n - l) cap') w1) ∧
    ∀ i, i < n - l → ∃ x : Addr, a' = some x ∧ x.block < w.heap.size ∧ w.cell? (x.add i) = some (.string (f (l + i))) := by
  have hc := h.form
  obtain ⟨h1, ⟨rfl, rfl⟩ | ⟨g, cap, cur, rfl, hB, hg, hn, hm, hs, ht⟩⟩ := h
  · obtain rfl : l = 0 := by omega
    exact ⟨_, _, fun w1 => by rw [run_sliceAt_slice w1 37 _ _ _ _ (by kernel_rfl), run_slice_l w1 37 none 0 0 (by kernel_rfl) .i64 _ (by omega) (by omega), str_elem]; rfl, fun i hi => absurd hi (Nat.not_lt_zero i)⟩
  · refine ⟨if cap = l then some ⟨g, 0, none⟩ else some ⟨g, l, none⟩, cap - l, fun w1 => ?_, fun i hi => ?_⟩
    · rw [run_sliceAt_slice w1 37 _ _ _ _ (by kernel_rfl), run_slice_l w1 37 _ n cap (by kernel_rfl) .i64 _ (by omega) (by omega), str_elem]
      simp [Result.andThen, sliced, addr_add]
    · obtain ⟨a', cap', hf1, hf2⟩ := hc
      obtain ⟨g', rfl, _, hgl, hcc⟩ := hf2 (by omega)
      injection hf1 with e1
      injection e1 with e1
      injection e1 with e1
      subst e1
      refine ⟨⟨g, l, none⟩, by rw [if_neg (by omega)], hgl, ?_⟩
      have := (hcc (l + i) (by omega)).1
      rw [addr_add]; exact this
set_option maxHeartbeats 1600000 in
set_option maxRecDepth 100000 in
theorem iWorst_any (v : Value) (B n : Nat) (f : Nat → ByteArray) (w : World) (h : SF w B v n f) (hn : n ≤ 1048576) (hf : ∀ i, i < n → (f i).size ≤ 1048576) :
    Calls Try.prog 43 #[v] w fun e w' => e = .returned (.int .i64 (worstAns n f)) ∧ Below w.heap.size w w' := by
  have hV := fun w h => codes_any v B n f w h hn hf
  have hTL := fun l hl => tail_strs h l hl
  obtain ⟨a, cap, rfl, hc⟩ := h.put
  have HH := Lib.hid h
  unfold worstAns
  cases hb : famB n f with
  | false =>
    rw [hb] at hV
    have HV := Lib.hid hV
    clear hV hb hc h hTL
    go_enter Try.func43, Try.ntmps43
    go_wp2_with fail
    refine (HV.out _ HH.out).mono ?_
    rintro e w' ⟨rfl, rfl⟩
    go_wp2
    go_ret
    exact ⟨rfl, Below.refl _ _⟩
  | true =>
    rw [hb] at hV
    have HV := Lib.hid hV
    have hb' := hb
    unfold famB at hb'
    simp only [Bool.and_eq_true, decide_eq_true_eq] at hb'
    obtain ⟨n1, n70, hall⟩ := hb'
    have HA := Lib.hid (fun i (hi : i < n) => allP_at hall hi)
    have HC := Lib.hid hc
    have HTL := Lib.hid hTL
    have hp0 := allP_at hall (show 0 < n by omega)
    have h0 := size_le ((pairB_iff _ _).1 hp0).1
    have HL : Hid (∀ i, i < n → (f i).size = (f 0).size) := Lib.hid (fun i hi => ((pairB_iff _ _).1 (allP_at hall hi)).2.2)
    obtain ⟨L, hL⟩ : ∃ L, (f 0).size = L := ⟨_, rfl⟩
    rw [hL] at h0 HL ⊢
    have HWN := Lib.hid (fun i => allW_nonneg f L n i)
    have HRL := Lib.hid (fun i d => rowW_le f L (allW f L n i) i d)
    obtain ⟨l1, l2⟩ := h0
    simp only [if_true]
    clear hV hb hc h hTL hall hp0 hL
    go_enter Try.func43, Try.ntmps43
    go_wp2_with fail
    refine (HV.out _ HH.out).mono ?_
    rintro e w' ⟨rfl, rfl⟩
    clear HV HH
    go_wp2
    go_loopw [3, 13] (fun m c wr => ∃ i : Nat, i ≤ n ∧ c = .int .i64 i ∧ m = .int .i64 (allW f L n i) ∧ Below w.heap.size w wr) (fun _ c _ => n - (intOf c).toNat)
    case atStart => exact ⟨0, by omega, rfl, rfl, Below.refl _ _⟩
    case round =>
      obtain ⟨i, hi, rfl, rfl, rb⟩ := hrel
      by_cases hlt : i < n
      · obtain ⟨g, rfl, hx, hcc'⟩ := HC.out i hlt
        have hcc : wr.cell? ⟨g, i, none⟩ = some (.string (f i)) := (rb.cell (p := ⟨g, i, none⟩) hx).trans hcc'
        have hpair := pair_of (HA.out i hlt) (HA.out i hlt)
        have hsz := HL.out i hlt
        have hT := fun w => iTab_yes (f i) (f i) w hpair
        have HK : Hid (∀ k, k < n → Hid (pairB (f i) (f k) = true)) := Lib.hid (fun k hk => Lib.hid (pair_of (HA.out i hlt) (HA.out k hk)))
        have hg := grW_same f (L - 1) i
        rw [show L - 1 + 1 = L by omega] at hg
        have hbd := fun k => crossN_bd (f i) (f i) k
        rw [hsz] at hT hbd
        have hys := hsz
        have hstep : rowW f L (allW f L n i) i 1 = max (allW f L n i) (grW f L i (i + 0)) := rfl
        rw [Nat.add_zero, hg] at hstep
        have hv0 := HWN.out i
        obtain ⟨V, hV⟩ : ∃ V, allW f L n i = V := ⟨_, rfl⟩
        have hRL := fun d => HRL.out i d
        rw [hV] at hstep hv0 hRL ⊢
        have HVV : Hid (allW f L n (i + 1) = rowW f L V i (n - i)) := Lib.hid (by rw [← hV]; rfl)
        have HKE : Hid (∀ d, rowW f L V i (d + 2) = max (rowW f L V i (d + 1)) (mxA 0 (fun j => crossN (f i) (f (i + 1 + d)) j) L)) := Lib.hid (fun d => by
          rw [rowW, show i + (d + 1) = i + 1 + d by omega, grW_else f L i (i + 1 + d) (by omega)])
        have HCB : Hid (∀ k j, k < n → -1000 ≤ crossN (f i) (f k) j ∧ crossN (f i) (f k) j ≤ 1000) := Lib.hid (fun k j hk => by
          have := crossN_bd (f i) (f k) j
          rw [hsz] at this
          omega)
        obtain ⟨y, hy⟩ : ∃ y, f i = y := ⟨_, rfl⟩
        rw [hy] at hcc hT hstep hbd HK HKE HCB hys
        have HYS := Lib.hid hys
        clear hys
        obtain ⟨M0, hM0⟩ : ∃ M, mxA 0 (fun j => crossN y y (1 + j)) (L - 1) = M := ⟨_, rfl⟩
        rw [hM0] at hstep
        have HM0 := Lib.hid hM0
        have HST := Lib.hid hstep
        have HT := Lib.hid hT
        have HBD := Lib.hid hbd
        have HRR := Lib.hid hRL
        have i0 : (0 : Int) ≤ (i : Int) := by omega
        have i1 : (i : Int) < (n : Int) := by omega
        clear hg hstep hM0 hV hy hT hbd hpair hsz hcc' hRL
        go_wp2_with fail
        refine (HT.out _).mono ?_
        rintro e w1 ⟨vt, rfl, OT, hb1⟩
        have b1 := below_then rb (Nat.le_refl _) hb1
        obtain ⟨at', capt, hsl, hct⟩ := tail_ints OT 1 l1
        obtain ⟨ft, ct, rfl, -⟩ := OT.form
        have hsl' : ∀ w1, (Instr.sliceAt 30 (.slice ft L ct) (some (.int .i64 1)) none none).run Try.prog w1 = .ok (.slice at' (L - 1) capt) w1 := hsl
        have HG := Lib.hid (greatest_any at' capt (L - 1) (fun j => crossN y y (1 + j)) w1 hct (by omega) (fun j _ => by have := HBD.out (1 + j); omega))
        clear OT hb1 rb hsl hct
        go_wp2_with fail
        refine HG.out.mono ?_
        rintro e w' ⟨rfl, rfl⟩
        rw [HM0.out]
        obtain ⟨a2, cap2, hsl2, hct2⟩ := HTL.out (i + 1) (by omega)
        rw [show ((i + 1 : Nat) : Int) = (i : Int) + 1 by omega] at hsl2
        obtain ⟨N2, hN2⟩ : ∃ N2, n - (i + 1) = N2 := ⟨_, rfl⟩
        rw [hN2] at hsl2 hct2
        have HC2 := Lib.hid hct2
        clear hct2 hsl' HG
        go_wp2
        all_goals
          go_loopw [3, 30] (fun m c wr => ∃ d : Nat, d ≤ N2 ∧ c = .int .i64 d ∧ m = .int .i64 (rowW f L V i (d + 1)) ∧ Below w.heap.size w wr) (fun _ c _ => N2 - (intOf c).toNat)
          case atStart => exact ⟨0, by omega, rfl, by show _ = Value.int .i64 (rowW f L V i 1); rw [HST.out]; congr 1; omega, b1⟩
          case round =>
            obtain ⟨d, hd, rfl, rfl, qb⟩ := hrel
            by_cases hdl : d < N2
            · obtain ⟨x2, rfl, hx2, hc2'⟩ := HC2.out d hdl
              have hc2 : wr.cell? (x2.add d) = some (.string (f (i + 1 + d))) := (qb.cell (p := x2.add d) (by rw [add_block]; exact hx2)).trans hc2'
              have hT := fun w => iTab_yes y (f (i + 1 + d)) w (HK.out _ (by omega)).out
              rw [HYS.out] at hT
              have hcb := fun j => HCB.out (i + 1 + d) j (by omega)
              have hke := HKE.out d
              obtain ⟨u, hu⟩ : ∃ u, f (i + 1 + d) = u := ⟨_, rfl⟩
              rw [hu] at hc2 hT hcb hke
              obtain ⟨M1, hM1⟩ : ∃ M, mxA 0 (fun j => crossN y u j) L = M := ⟨_, rfl⟩
              rw [hM1] at hke
              have HM1 := Lib.hid hM1
              have HK1 := Lib.hid hke
              have HT1 := Lib.hid hT
              have HB1 := Lib.hid hcb
              obtain ⟨R, hR⟩ : ∃ R, rowW f L V i (d + 1) = R := ⟨_, rfl⟩
              rw [hR] at HK1 ⊢
              have d0 : (0 : Int) ≤ (d : Int) := by omega
              have d1 : (d : Int) < (N2 : Int) := by omega
              clear hu hM1 hke hT hcb hR hc2' hx2
              go_wp2_with fail
              refine (HT1.out _).mono ?_
              rintro e w2 ⟨vt, rfl, OT, hb2⟩
              have b2 := below_then qb (Nat.le_refl _) hb2
              obtain ⟨at2, capt2, rfl, hct⟩ := OT.ints
              have HG := Lib.hid (greatest_any at2 capt2 L (fun j => crossN y u j) w2 hct (by omega) (fun j _ => HB1.out j))
              clear OT hb2 qb hct
              go_wp2_with fail
              refine HG.out.mono ?_
              rintro e w' ⟨rfl, rfl⟩
              rw [HM1.out]
              go_wp2
              go_roundw
              case rel => exact ⟨d + 1, by omega, by go_num, by show _ = Value.int .i64 (rowW f L V i (d + 2)); rw [HK1.out]; congr 1; omega, b2⟩
              case measure => simp [intOf]; omega
            · obtain rfl : d = N2 := by omega
              have hV2 := HVV.out
              rw [show n - i = d + 1 by omega] at hV2
              have HV2 := Lib.hid hV2
              clear hV2
              go_wp2
              go_roundw
              case rel => exact ⟨i + 1, by omega, by go_num, by rw [HV2.out], qb⟩
              case measure => simp [intOf]; omega
      · obtain rfl : i = n := by omega
        go_wp2
        go_ret
        exact ⟨rfl, rb⟩
set_option maxHeartbeats 1600000 in
set_option maxRecDepth 100000 in
theorem sWorst_any (v : Value) (B n : Nat) (f : Nat → ByteArray) (w : World) (h : SF w B v n f) (hn : n ≤ 1048576) (hf : ∀ i, i < n → (f i).size ≤ 1048576) :
    Calls Try.prog 42 #[v] w fun e w' => e = .returned (.int .i64 (worstAns n f)) ∧ Below w.heap.size w w' := by
  have hV := fun w h => family3_any v B n f w h hn hf
  obtain ⟨a, cap, rfl, hc⟩ := h.put
  have HH := Lib.hid h
  unfold worstAns
  cases hb : famB n f with
  | false =>
    rw [hb] at hV
    have HV := Lib.hid hV
    clear hV hb hc h
    go_enter Try.func42, Try.ntmps42
    go_wp2_with fail
    refine (HV.out _ HH.out).mono ?_
    rintro e w' ⟨rfl, m, rfl⟩
    go_wp2
    go_ret
    exact ⟨rfl, below_drewN (Below.refl _ _) m⟩
  | true =>
    rw [hb] at hV
    have HV := Lib.hid hV
    have hb' := hb
    unfold famB at hb'
    simp only [Bool.and_eq_true, decide_eq_true_eq] at hb'
    obtain ⟨n1, n70, hall⟩ := hb'
    have HA := Lib.hid (fun i (hi : i < n) => allP_at hall hi)
    have hp0 := allP_at hall (show 0 < n by omega)
    have h0 := size_le ((pairB_iff _ _).1 hp0).1
    have HL : Hid (∀ i, i < n → (f i).size = (f 0).size) := Lib.hid (fun i hi => ((pairB_iff _ _).1 (allP_at hall hi)).2.2)
    obtain ⟨g, rfl, hg, hcc0⟩ := hc 0 (by omega)
    have HG := Lib.hid hg
    have HC : Hid (∀ i, i < n → w.cell? ⟨g, i, none⟩ = some (.string (f i))) := Lib.hid (fun i hi => by
      obtain ⟨g', e, -, h2⟩ := hc i hi
      injection e with e
      injection e with e
      subst e
      exact h2)
    obtain ⟨F0, hF0⟩ : ∃ F, f 0 = F := ⟨_, rfl⟩
    rw [hF0] at hcc0 h0 HL HA ⊢
    obtain ⟨L, hL⟩ : ∃ L, F0.size = L := ⟨_, rfl⟩
    rw [hL] at h0 HL ⊢
    have HZ : Hid (((F0.size : Nat) : Int) = (L : Int)) := Lib.hid (by rw [hL])
    have HWN := Lib.hid (fun i => allW_nonneg f L n i)
    have HRL := Lib.hid (fun i d => rowW_le f L (allW f L n i) i d)
    have HC0 := Lib.hid hcc0
    obtain ⟨l1, l2⟩ := h0
    have n0 : (0 : Int) < (n : Int) := by omega
    simp only [if_true]
    clear hV hb hc h hall hp0 hg hcc0 hF0
    go_enter Try.func42, Try.ntmps42
    go_wp2_with fail
    refine (HV.out _ HH.out).mono ?_
    rintro e w' ⟨rfl, mm, rfl⟩
    have b0 := below_drewN (Below.refl w.heap.size w) mm
    obtain ⟨W0, hW0⟩ : ∃ W, w.drewN mm = W := ⟨_, rfl⟩
    rw [hW0] at b0 ⊢
    clear HV HH hW0
    go_wp2
    go_loopw [3, 4] (fun m c wr => ∃ i : Nat, i ≤ n ∧ c = .int .i64 i ∧ m = .int .i64 (allW f L n i) ∧ Below w.heap.size w wr) (fun _ c _ => n - (intOf c).toNat)
    case atStart => exact ⟨0, by omega, rfl, rfl, b0⟩
    case round =>
      obtain ⟨i, hi, rfl, rfl, rb⟩ := hrel
      by_cases hlt : i < n
      · have hv0 := HWN.out i
        obtain ⟨V, hV⟩ : ∃ V, allW f L n i = V := ⟨_, rfl⟩
        have hRL := fun d => HRL.out i d
        rw [hV] at hv0 hRL ⊢
        have HVV : Hid (allW f L n (i + 1) = rowW f L V i (n - i)) := Lib.hid (by rw [← hV]; rfl)
        have HRR := Lib.hid hRL
        have i0 : (0 : Int) ≤ (i : Int) := by omega
        have i1 : (i : Int) < (n : Int) := by omega
        clear hV hRL
        go_wp2
        go_loopw [3, 5] (fun m c wr => ∃ k : Nat, i ≤ k ∧ k ≤ n ∧ c = .int .i64 k ∧ m = .int .i64 (rowW f L V i (k - i)) ∧ Below w.heap.size w wr) (fun _ c _ => n - (intOf c).toNat)
        case atStart => exact ⟨i, by omega, by omega, rfl, by rw [Nat.sub_self]; rfl, rb⟩
        case round =>
          obtain ⟨k, hik, hk, rfl, rfl, qb⟩ := hrel
          by_cases hkl : k < n
          · have hr0 := HRR.out (k - i)
            have hnext : rowW f L V i (k + 1 - i) = mxA (rowW f L V i (k - i)) (ecr f i k) L := by
              rw [show k + 1 - i = (k - i) + 1 by omega, rowW, show i + (k - i) = k by omega]
              exact (mxA_acc _ (by omega) _ L).symm
            obtain ⟨R, hR⟩ : ∃ R, rowW f L V i (k - i) = R := ⟨_, rfl⟩
            rw [hR] at hr0 hnext ⊢
            have HNX := Lib.hid hnext
            have HRN : Hid (∀ s, R ≤ mxA R (ecr f i k) s) := Lib.hid (fun s => mxA_le R _ s)
            have hr1 : 0 ≤ R := by omega
            have hpair := pair_of (HA.out i hlt) (HA.out k hkl)
            have HX := Lib.hid (fun s w => l2Cross_any (f i) (f k) s w hpair)
            have hsk := HL.out k hkl
            have hsi := HL.out i hlt
            have HE0 : Hid (i = k → ecr f i k 0 = 0) := Lib.hid (fun e => by unfold ecr; rw [if_pos ⟨e, rfl⟩])
            have HE1 : Hid (∀ s, ¬ (i = k ∧ s = 0) → s < L → ecr f i k s = crossN (f i) (f k) (modN (s : Int) (f k).size)) := Lib.hid (fun s hs hl => by
              unfold ecr; rw [if_neg hs, modN_of_nat, hsk, Nat.mod_eq_of_lt hl])
            have HBD : Hid (∀ s, -(L : Int) ≤ crossN (f i) (f k) s ∧ crossN (f i) (f k) s ≤ L) := Lib.hid (fun s => by
              have := crossN_bd (f i) (f k) s
              rw [hsi] at this; exact this)
            have hci := HC.out i hlt
            have hck := HC.out k hkl
            obtain ⟨A, hA⟩ : ∃ A, f i = A := ⟨_, rfl⟩
            obtain ⟨K, hK⟩ : ∃ K, f k = K := ⟨_, rfl⟩
            rw [hA] at hci
            rw [hK] at hck
            rw [hA, hK] at HX HE1 HBD
            have HCI := Lib.hid hci
            have HCK := Lib.hid hck
            have k0 : (0 : Int) ≤ (k : Int) := by omega
            have k1 : (k : Int) < (n : Int) := by omega
            clear hnext hR hpair hsk hsi hA hK hci hck hr0
            go_wp2
            go_loopw [3, 6, 7] (fun m c c7 wr => ∃ s : Nat, s ≤ L ∧ c = .int .i64 s ∧ m = .int .i64 (mxA R (ecr f i k) s) ∧ Below w.heap.size w wr) (fun _ c _ _ => L - (intOf c).toNat)
            case atStart => exact ⟨0, by omega, rfl, rfl, qb⟩
            case round =>
              obtain ⟨s, hs, rfl, rfl, pb⟩ := hrel
              have c00 : wr.cell? ⟨g, 0, none⟩ = some (.string F0) := (pb.cell (p := ⟨g, 0, none⟩) HG.out).trans HC0.out
              have hz := HZ.out
              by_cases hsl : s < L
              · have hstep : mxA R (ecr f i k) (s + 1) = max (mxA R (ecr f i k) s) (max (ecr f i k s) (-(ecr f i k s))) := rfl
                have hrn := HRN.out s
                have s1 : (s : Int) < (F0.size : Int) := by omega
                by_cases hz0 : i = k ∧ s = 0
                · obtain ⟨rfl, rfl⟩ := hz0
                  rw [HE0.out rfl] at hstep
                  have HS := Lib.hid hstep
                  clear hstep
                  go_wp2
                  go_roundw
                  case rel => exact ⟨1, by omega, by go_num, by rw [HS.out]; congr 1; omega, pb⟩
                  case measure => simp [intOf]; omega
                · have he := HE1.out s hz0 hsl
                  have hX := fun w => HX.out (s : Int) w
                  obtain ⟨cb1, cb2⟩ := HBD.out (modN (s : Int) K.size)
                  rw [he] at hstep
                  obtain ⟨C, hC⟩ : ∃ C, crossN A K (modN (s : Int) K.size) = C := ⟨_, rfl⟩
                  rw [hC] at hstep hX cb1 cb2
                  obtain ⟨Q, hQ⟩ : ∃ Q, mxA R (ecr f i k) s = Q := ⟨_, rfl⟩
                  rw [hQ] at hstep hrn ⊢
                  have HS := Lib.hid hstep
                  have HXX := Lib.hid hX
                  have r0 := Below.refl wr.heap.size wr
                  have hgl : g < wr.heap.size := Nat.lt_of_lt_of_le HG.out pb.size
                  have ci : wr.cell? ⟨g, i, none⟩ = some (.string A) := (pb.cell (p := ⟨g, i, none⟩) HG.out).trans HCI.out
                  have ck : wr.cell? ⟨g, k, none⟩ = some (.string K) := (pb.cell (p := ⟨g, k, none⟩) HG.out).trans HCK.out
                  clear hstep hX hC hQ he
                  by_cases hik2 : i = k
                  · subst hik2
                    have hs0 : (0 : Int) < (s : Int) := by omega
                    have hAK : A = K := by rw [ci] at ck; injection ck with ck; injection ck
                    subst hAK
                    clear hz0
                    go_wp2_with fail
                    go_region_held3 (fun wx => Below wr.heap.size wr wx ∧ wx.cell? ⟨g, i, none⟩ = some (.string A) ∧ wx.cell? ⟨g, i, none⟩ = some (.string A)) (first | exact ⟨c50, c51, c52⟩ | exact ⟨r0.drew, ci, ck⟩) (first | (go_at_call 74; refine (HXX.out _).mono ?_; rintro e w5 ⟨rfl, hB⟩; have c50 := below_then r0.drew (Nat.le_refl _) hB; have c51 : w5.cell? ⟨g, i, none⟩ = some (.string A) := (c50.cell (p := ⟨g, i, none⟩) hgl).trans ci; have c52 : w5.cell? ⟨g, i, none⟩ = some (.string A) := (c50.cell (p := ⟨g, i, none⟩) hgl).trans ck))
                    all_goals
                      have b5 := below_then pb (Nat.le_refl _) c50
                      go_wp2
                      go_roundw
                      case rel => exact ⟨s + 1, by omega, by go_num, by rw [HS.out]; congr 1; omega, b5⟩
                      case measure => simp [intOf]; omega
                  · have hne : ((i : Int) == (k : Int)) = false := by rw [beq_eq_false_iff_ne]; omega
                    clear hz0
                    go_wp2_with fail
                    go_region_held3 (fun wx => Below wr.heap.size wr wx ∧ wx.cell? ⟨g, i, none⟩ = some (.string A) ∧ wx.cell? ⟨g, k, none⟩ = some (.string K)) (first | exact ⟨c50, c51, c52⟩ | exact ⟨r0.drew, ci, ck⟩) (first | (go_at_call 74; refine (HXX.out _).mono ?_; rintro e w5 ⟨rfl, hB⟩; have c50 := below_then r0.drew (Nat.le_refl _) hB; have c51 : w5.cell? ⟨g, i, none⟩ = some (.string A) := (c50.cell (p := ⟨g, i, none⟩) hgl).trans ci; have c52 : w5.cell? ⟨g, k, none⟩ = some (.string K) := (c50.cell (p := ⟨g, k, none⟩) hgl).trans ck))
                    all_goals
                      have b5 := below_then pb (Nat.le_refl _) c50
                      go_wp2
                      go_roundw
                      case rel => exact ⟨s + 1, by omega, by go_num, by rw [HS.out]; congr 1; omega, b5⟩
                      case measure => simp [intOf]; omega
              · obtain rfl : s = L := by omega
                have s1 : ¬ ((s : Int) < (F0.size : Int)) := by omega
                go_wp2
                go_roundw
                case rel => exact ⟨k + 1, by omega, by omega, by go_num, by rw [HNX.out], pb⟩
                case measure => simp [intOf]; omega
          · obtain rfl : k = n := by omega
            go_wp2
            go_roundw
            case rel => exact ⟨i + 1, by omega, by go_num, by rw [HVV.out], qb⟩
            case measure => simp [intOf]; omega
      · obtain rfl : i = n := by omega
        go_wp2
        go_ret
        exact ⟨rfl, rb⟩
set_option maxRecDepth 100000 in
theorem fnExactWorstCross_walk (a0 : Option Addr) (len0 cap0 : Nat) (z0 : Nat → ByteArray) (w : World) (h0 : StrsIn w a0 len0 cap0 z0) :
    Calls Try.prog 13 #[.slice a0 len0 cap0] w fun e w' => e = .returned (.bool true) ∧ Below w.heap.size w w' := by
  obtain ⟨hS, hl, hz⟩ := h0
  unfold maxLen at hl hz
  obtain ⟨v, hv⟩ : ∃ v, Value.slice a0 len0 cap0 = v := ⟨_, rfl⟩
  rw [hv] at hS ⊢
  have HZ := Lib.hid (fun w hS => szStringS_any v len0 z0 w hS (by omega) (fun i hi => by have := hz i hi; omega))
  have HS := Lib.hid hS
  clear hz hS hv
  go_enter Try.func13, Try.ntmps13
  go_wp2_with fail
  refine (HZ.out _ HS.out).mono ?_
  rintro e w' ⟨⟨L, rfl, hL⟩, rfl⟩
  rcases hL with rfl | ⟨hL0, hn, hf⟩
  · go_wp2
    go_ret
    exact ⟨rfl, Below.refl _ _⟩
  · have HT := Lib.hid (fun w hS => toStringS_any v len0 z0 w hS hn)
    have HP := Lib.hid (fun v B w hS => sWorst_any v B len0 z0 w hS hn hf)
    have HQ := Lib.hid (fun v B w hS => iWorst_any v B len0 z0 w hS hn hf)
    have HE := Lib.hid (fun v u w hv hu => eqStringS_same v u len0 z0 w hv hu hn)
    obtain ⟨X, hX⟩ : ∃ X, worstAns len0 z0 = X := ⟨_, rfl⟩
    rw [hX] at HP HQ
    clear hf hX HZ
    go_wp2_with fail
    refine (HT.out _ HS.out).mono ?_
    rintro e w1 ⟨v1, rfl, O1, b1⟩
    have T1 := HS.out.below b1
    go_wp2_with fail
    refine (HP.out v1 _ _ O1).mono ?_
    rintro e w2 ⟨rfl, hb2⟩
    have b2 := below_then b1 (Nat.le_refl _) hb2
    have T2 := T1.below hb2
    clear T1 b1 hb2 O1
    go_wp2_with fail
    refine (HT.out _ T2).mono ?_
    rintro e w3 ⟨v3, rfl, O3, hb3⟩
    have b3 := below_then b2 (Nat.le_refl _) hb3
    have T3 := T2.below hb3
    clear T2 b2 hb3
    go_wp2_with fail
    refine (HQ.out v3 _ _ O3).mono ?_
    rintro e w4 ⟨rfl, hb4⟩
    have b4 := below_then b3 (Nat.le_refl _) hb4
    have T4 := T3.below hb4
    have O4 := O3.strs.below hb4
    clear T3 b3 hb4 O3
    go_wp2_with fail
    refine (HT.out _ T4).mono ?_
    rintro e w5 ⟨v5, rfl, O5, hb5⟩
    have b5 := below_then b4 (Nat.le_refl _) hb5
    have O6 := O4.below hb5
    clear T4 b4 hb5 O4
    go_wp2_with fail
    refine (HE.out v3 v5 _ O6 O5.strs).mono ?_
    rintro e w6 ⟨rfl, m, rfl⟩
    have b6 := below_drewN b5 m
    clear b5 O5 O6
    go_wp2
    go_ret
    exact ⟨rfl, b6⟩
end Go.Proofs.Ytijoemoiimfffaa
