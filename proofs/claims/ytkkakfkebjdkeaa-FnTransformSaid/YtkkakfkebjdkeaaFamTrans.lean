/- WalshTransform of both sides, and the walk of its exact law. -/
import Derived.Test.YtkkakfkebjdkeaaFamIdx
import Derived.Test.YtkkakfkebjdkeaaIntsBig
import Derived.Test.YtkkakfkebjdkeaaStrFrame
namespace Go.Proofs.Ytkkakfkebjdkeaa
open Go.RowKit
set_option linter.unusedVariables false
def inT (x : Int) : Bool := decide (-1000000 ≤ x) && decide (x ≤ 1000000)
def allT (n : Nat) (f : Nat → Int) : Bool := (List.range n).all fun j => inT (f j)
theorem allT_succ (n : Nat) (f : Nat → Int) : allT (n + 1) f = (allT n f && inT (f n)) := by unfold allT; rw [List.range_succ, List.all_append]; simp
theorem allT_bad {n k : Nat} {f : Nat → Int} (hk : k < n) (h : inT (f k) = false) : allT n f = false := by
  unfold allT
  rw [List.all_eq_false]
  exact ⟨k, List.mem_range.2 hk, by rw [h]; simp⟩
theorem allT_at {n k : Nat} {f : Nat → Int} (h : allT n f = true) (hk : k < n) : -1000000 ≤ f k ∧ f k ≤ 1000000 := by
  unfold allT at h
  have := List.all_eq_true.1 h k (List.mem_range.2 hk)
  unfold inT at this
  simp only [Bool.and_eq_true, decide_eq_true_eq] at this
  exact this
/-- The sign of an element, and the transform. -/
def wv (i k : Nat) : Int := 1 - 2 * (walF i k : Int)
def trF (n : Nat) (z : Nat → Int) (i : Nat) : Int := sumI (fun k => z k * wv i k) n
def trN (n : Nat) (z : Nat → Int) : Nat := if isT n && allT n z then n else 0
theorem wv_zero {i k : Nat} (h : walF i k = 0) : wv i k = 1 := by unfold wv; rw [h]; rfl
theorem wv_one {i k : Nat} (h : walF i k = 1) : wv i k = -1 := by unfold wv; rw [h]; rfl
theorem trN_le (n : Nat) (z : Nat → Int) : trN n z ≤ 1000000 := by
  unfold trN
  split
  · rename_i h
    rw [Bool.and_eq_true] at h
    have := isT_bd h.1
    omega
  · omega
theorem part_bd {n : Nat} {z : Nat → Int} (h : allT n z = true) (i : Nat) : ∀ k : Nat, k ≤ n → -(1000000 * (k : Int)) ≤ sumI (fun k => z k * wv i k) k ∧ sumI (fun k => z k * wv i k) k ≤ 1000000 * (k : Int)
  | 0, _ => by simp [sumI]
  | k + 1, hk => by
    have ih := part_bd h i k (by omega)
    have hz := allT_at h (show k < n by omega)
    simp only [sumI]
    have hw := walF_lt i k
    have : walF i k = 0 ∨ walF i k = 1 := by omega
    rcases this with e | e
    · rw [wv_zero e]; omega
    · rw [wv_one e]; omega
theorem OF.snocF {w : World} {B : Nat} {v : Value} {i : Nat} {f : Nat → Int} {y : Int} (h : OF w B v (i + 1) (fun j => if j < i then f j else y)) (hy : y = f i) : OF w B v (i + 1) f :=
  h.congr fun j hj => by
    by_cases e : j < i
    · simp only [if_pos e]
    · obtain rfl : j = i := by omega
      simp only [if_neg e]; exact hy
set_option maxRecDepth 100000 in
theorem terms_any (v : Value) (n : Nat) (z : Nat → Int) (w : World) (h : IntsR w v n z) (hn : n ≤ 1048576) :
    Calls Try.prog 68 #[v] w fun e w' => e = .returned (.bool (allT n z && isT n)) ∧ w = w' := by
  obtain ⟨a, cap, rfl, hc⟩ := h
  have HC := Lib.hid hc
  have HT := Lib.hid (fun w => wordLen_any n w (by omega))
  have HB := Lib.hid (fun k (hk : k < n) h => allT_bad (f := z) hk h)
  have HS := Lib.hid (fun k => allT_succ k z)
  clear hc
  go_enter Try.func68, Try.ntmps68
  go_wp2
  go_loop [7] (fun i => ∃ k : Nat, k ≤ n ∧ i = .int .i64 k ∧ Hid (allT k z = true)) (fun i => n - (intOf i).toNat)
  case atStart => exact ⟨0, by omega, rfl, Lib.hid rfl⟩
  case round =>
    obtain ⟨k, hk, rfl, rA⟩ := hrel
    by_cases hlt : k < n
    · obtain ⟨x, rfl, hx, hcc⟩ := HC.out k hlt
      have hb := HB.out k hlt
      have hs := HS.out k
      rw [rA.out, Bool.true_and] at hs
      have hi : inT (z k) = (decide (-1000000 ≤ z k) && decide (z k ≤ 1000000)) := rfl
      obtain ⟨y, hy⟩ : ∃ y, z k = y := ⟨_, rfl⟩
      rw [hy] at hcc hb hs hi
      have i0 : (0 : Int) ≤ (k : Int) := by omega
      have i1 : (k : Int) < (n : Int) := by omega
      clear hy hx rA
      by_cases h1 : -1000000 ≤ y
      · by_cases h2 : y ≤ 1000000
        · rw [decide_eq_true h1, decide_eq_true h2] at hi
          have l1 : ¬ (y < -1000000) := by omega
          have l2 : ¬ ((1000000 : Int) < y) := by omega
          have nA := Lib.hid (hs.trans hi)
          clear hb hs hi
          go_wp2
          go_round
          case rel => exact ⟨k + 1, by omega, by go_num, nA⟩
          case measure => simp [intOf]; omega
        · rw [decide_eq_true h1, decide_eq_false h2] at hi
          have l1 : ¬ (y < -1000000) := by omega
          have l2 : ((1000000 : Int) < y) := by omega
          have HA := Lib.hid (hb hi)
          clear hb hs hi
          go_wp2
          go_ret
          exact ⟨ret_bool (by rw [HA.out]; rfl), rfl⟩
      · rw [decide_eq_false h1] at hi
        have l1 : (y < -1000000) := by omega
        have HA := Lib.hid (hb hi)
        clear hb hs hi
        go_wp2
        go_ret
        exact ⟨ret_bool (by rw [HA.out]; rfl), rfl⟩
    · obtain rfl : k = n := by omega
      have HA := Lib.hid rA.out
      clear rA
      go_wp2_with fail
      refine (HT.out _).mono ?_
      rintro e w' ⟨rfl, rfl⟩
      go_wp2
      go_ret
      exact ⟨ret_bool (by rw [HA.out, Bool.true_and]), rfl⟩
set_option maxHeartbeats 1600000 in
set_option maxRecDepth 100000 in
theorem iTrans_any (v : Value) (n : Nat) (z : Nat → Int) (w : World) (h : IntsR w v n z) (hn : n ≤ 1048576) :
    Calls Try.prog 14 #[v] w fun e w' => ∃ u, e = .returned u ∧ OF w' w.heap.size u (trN n z) (trF n z) ∧ Below w.heap.size w w' := by
  have hT := fun w h => terms_any v n z w h hn
  unfold trN
  cases hb : (isT n && allT n z) with
  | false =>
    rw [Bool.and_comm] at hb
    rw [hb] at hT
    have HT := Lib.hid hT
    have HH := Lib.hid h
    clear hT hb h
    go_enter Try.func14, Try.ntmps14
    go_wp2_with fail
    refine (HT.out _ HH.out).mono ?_
    rintro e w' ⟨rfl, rfl⟩
    go_wp2
    go_ret
    exact ⟨_, rfl, OF.nil _ _ _, Below.refl _ _⟩
  | true =>
    have hb' := hb
    rw [Bool.and_eq_true] at hb'
    obtain ⟨b1, b2⟩ := isT_bd hb'.1
    rw [Bool.and_comm] at hb
    rw [hb] at hT
    have HT := Lib.hid hT
    have HH := Lib.hid h
    have HB := Lib.hid (fun i k hk => part_bd hb'.2 i k hk)
    have HZ := Lib.hid (fun k (hk : k < n) => allT_at hb'.2 hk)
    obtain ⟨a, cap, rfl, hc⟩ := h
    obtain ⟨x, rfl, hx0, -⟩ := hc 0 (by omega)
    have HX := Lib.hid hx0
    have HC : Hid (∀ i, i < n → w.cell? (x.add i) = some (.int .i64 (z i))) := Lib.hid (fun i hi => by
      obtain ⟨x', e, -, h2⟩ := hc i hi
      injection e with e
      subst e
      exact h2)
    have HW := Lib.hid (fun i w (hi : i < 64) => walshWord_any n i w b2 hi)
    have hmk := make_ints n (by omega)
    clear hT hb hb' hc hx0
    simp only [if_true]
    go_enter Try.func14, Try.ntmps14
    go_wp2_with fail
    refine (HT.out _ HH.out).mono ?_
    rintro e w' ⟨rfl, rfl⟩
    clear HT HH
    go_wp2
    go_loopw [16] (fun o wr => ∃ i : Nat, i ≤ n ∧ o = .int .i64 i ∧ OF wr w.heap.size (.slice (some ⟨w.heap.size, 0, none⟩) n n) n (fun j => if j < i then trF n z j else 0) ∧ Below w.heap.size w wr) (fun o _ => n - (intOf o).toNat)
    case atStart => exact ⟨0, by omega, rfl, (OF.made w n (by omega)).congr (fun j _ => by simp), (Below.refl _ _).alloc (Nat.le_refl _) _⟩
    case round =>
      obtain ⟨i, hi, rfl, rO, rb⟩ := hrel
      clear hmk
      by_cases hlt : i < n
      · have hW := fun w => HW.out i w (by omega)
        have i0 : (0 : Int) ≤ (i : Int) := by omega
        have i1 : (i : Int) < (n : Int) := by omega
        have HF : Hid (∀ k, k < n → (fun v => if v < n then walF i v else 0) k = walF i k) := Lib.hid (fun k hk => by simp [hk])
        obtain ⟨F, hF⟩ : ∃ F : Nat → Nat, (fun v => if v < n then walF i v else 0) = F := ⟨_, rfl⟩
        rw [hF] at hW HF
        obtain ⟨A, hA⟩ : ∃ A, wordA F = A := ⟨_, rfl⟩
        rw [hA] at hW
        have HA := Lib.hid hA
        have HWW := Lib.hid hW
        clear hF hA hW
        go_wp2_with fail
        refine (HWW.out _).mono ?_
        rintro e w1 ⟨rfl, hb1⟩
        have O1 := rO.below hb1
        have c1 := below_then rb (Nat.le_refl _) hb1
        have hsz := hb1.size
        have hlt0 : w.heap.size < wr.heap.size := by
          obtain ⟨_, _, hf1, hf2⟩ := rO.form
          obtain ⟨g', rfl, _, hl, _⟩ := hf2 (by omega)
          injection hf1 with e1
          injection e1 with e1
          injection e1 with e1
          omega
        clear rO rb hb1
        go_wp2_with (first | (refine wpList_store_word rfl 83 _ _ rfl w1.heap.size F A HA.out.symm rfl rfl 83 _ (heap_alloc_new w1 _) word_size ?_ ?_; kernel_rfl; intro W hbel hL; have c2 := hbel _ _ (c1.alloc c1.size _) c1.size; have d2 := hbel _ _ ((Below.refl w1.heap.size w1).alloc (Nat.le_refl _) _) (Nat.le_refl _)))
        have O2 := O1.below d2
        have hg : w.heap.size < w1.heap.size := by omega
        obtain ⟨g, hgg⟩ : ∃ g, w1.heap.size = g := ⟨_, rfl⟩
        rw [hgg] at hL hg ⊢
        clear hbel d2 O1 c1 hgg hsz hlt0
        have O3 : OF W w.heap.size (.slice (some ⟨w.heap.size, 0, none⟩) n n) n (fun j => if j < i then trF n z j else if j = i then sumI (fun k => z k * wv i k) 0 else 0) := O2.congr fun j hj => by simp [sumI]
        clear O2
        go_loopw [25] (fun o wr2 => ∃ k : Nat, k ≤ n ∧ o = .int .i64 k ∧ OF wr2 w.heap.size (.slice (some ⟨w.heap.size, 0, none⟩) n n) n (fun j => if j < i then trF n z j else if j = i then sumI (fun k => z k * wv i k) k else 0) ∧ Bytes wr2 g 83 64 F ∧ Below w.heap.size w wr2) (fun o _ => n - (intOf o).toNat)
        case atStart => exact ⟨0, by omega, rfl, O3, hL, c2⟩
        case round =>
          obtain ⟨k, hk, rfl, qO, qB, qb⟩ := hrel
          by_cases hkl : k < n
          · obtain ⟨s1, s2⟩ := qO.at i hlt
            rw [if_neg (Nat.lt_irrefl i), if_pos rfl] at s1
            obtain ⟨e1, e2⟩ := HB.out i k (by omega)
            obtain ⟨t1, t2⟩ := HZ.out k hkl
            have cz := (qb.cell (p := x.add k) (by rw [add_block]; exact HX.out)).trans (HC.out k hkl)
            have cw := qB.cell k (by omega)
            rw [HF.out k hkl] at cw
            have hstep : sumI (fun k => z k * wv i k) (k + 1) = sumI (fun k => z k * wv i k) k + z k * wv i k := rfl
            obtain ⟨S, hS⟩ : ∃ S, sumI (fun k => z k * wv i k) k = S := ⟨_, rfl⟩
            rw [hS] at s1 e1 e2 hstep
            obtain ⟨y, hy⟩ : ∃ y, z k = y := ⟨_, rfl⟩
            rw [hy] at cz t1 t2 hstep
            have k0 : (0 : Int) ≤ (k : Int) := by omega
            have k1 : (k : Int) < (n : Int) := by omega
            have k2 : (k : Int) < 64 := by omega
            have f1 : -64000000 ≤ S := by omega
            have f2 : S ≤ 64000000 := by omega
            have hw2 := walF_lt i k
            have hset : ∀ Y : Int, sumI (fun k => z k * wv i k) (k + 1) = Y → Hid (OF (wr.setCell ⟨w.heap.size, i, none⟩ (.int .i64 Y)) w.heap.size (.slice (some ⟨w.heap.size, 0, none⟩) n n) n (fun j => if j < i then trF n z j else if j = i then sumI (fun k => z k * wv i k) (k + 1) else 0)) := fun Y hY =>
              Lib.hid (qO.set i Y hlt (fun j hj => by
                by_cases e : j = i
                · subst e; simp only [Nat.lt_irrefl, if_false, if_true]; exact hY
                · by_cases e' : j < i <;> simp only [e, e', if_true, if_false]))
            have nB : ∀ Y : Int, Hid (Bytes (wr.setCell ⟨w.heap.size, i, none⟩ (.int .i64 Y)) g 83 64 F) := fun Y => Lib.hid (World.rowIs.setOther qB (by simp; omega) _)
            have nb : ∀ Y : Int, Hid (Below w.heap.size w (wr.setCell ⟨w.heap.size, i, none⟩ (.int .i64 Y))) := fun Y => Lib.hid (qb.setCell (p := ⟨w.heap.size, i, none⟩) (Nat.le_refl _) _)
            by_cases hb : walF i k = 0
            · rw [wv_zero hb, Int.mul_one] at hstep
              rw [hb] at cw
              have m1 := hset _ hstep
              have m2 := nB (S + y)
              have m3 := nb (S + y)
              clear hset nB nb hstep hS hy hb hw2 qO qB qb e1 e2
              go_wp2
              go_roundw
              case rel => exact ⟨k + 1, by omega, by go_num, m1.out, m2.out, m3.out⟩
              case measure => simp [intOf]; omega
            · have hb1 : walF i k = 1 := by omega
              rw [wv_one hb1, Int.mul_neg, Int.mul_one] at hstep
              rw [hb1] at cw
              have m1 := hset (S - y) hstep
              have m2 := nB (S - y)
              have m3 := nb (S - y)
              clear hset nB nb hstep hS hy hb hb1 hw2 qO qB qb e1 e2
              go_wp2
              go_roundw
              case rel => exact ⟨k + 1, by omega, by go_num, m1.out, m2.out, m3.out⟩
              case measure => simp [intOf]; omega
          · obtain rfl : k = n := by omega
            have nO : Hid (OF wr w.heap.size (.slice (some ⟨w.heap.size, 0, none⟩) k k) k (fun j => if j < i + 1 then trF k z j else 0)) := Lib.hid (qO.congr fun j hj => by
              by_cases e : j = i
              · subst e; rw [if_neg (Nat.lt_irrefl _), if_pos rfl, if_pos (by omega)]; rfl
              · by_cases e' : j < i
                · rw [if_pos e', if_pos (by omega)]
                · rw [if_neg e', if_neg e, if_neg (by omega)])
            clear qO qB
            go_wp2
            go_roundw
            case rel => exact ⟨i + 1, by omega, by go_num, nO.out, qb⟩
            case measure => simp [intOf]; omega
      · obtain rfl : i = n := by omega
        have nO := Lib.hid (rO.congr (g := trF i z) (fun j hj => by rw [if_pos hj]))
        clear rO
        go_wp2
        go_ret
        exact ⟨_, rfl, nO.out, rb⟩
set_option maxHeartbeats 1600000 in
set_option maxRecDepth 100000 in
theorem sTrans_any (v : Value) (n : Nat) (z : Nat → Int) (w : World) (h : IntsR w v n z) (hn : n ≤ 1048576) :
    Calls Try.prog 16 #[v] w fun e w' => ∃ u, e = .returned u ∧ OF w' w.heap.size u (trN n z) (trF n z) ∧ Below w.heap.size w w' := by
  obtain ⟨q, hq, hqi⟩ : ∃ q : Int, (∀ w, Calls Try.prog 70 #[.int .i64 (n : Int)] w fun e w' => e = .returned (.int .i64 q) ∧ w = w') ∧ (isT n = true ∧ 0 ≤ q ∨ isT n = false ∧ q < 0) := by
    cases hT : isT n with
    | true =>
      obtain ⟨o, ho, hto⟩ := isT_tw hT
      exact ⟨o, fun w => by rw [← hto]; exact l3Order_yes o w ho, .inl ⟨rfl, by omega⟩⟩
    | false => exact ⟨-1, fun w => l3Order_no n w (by omega) hT, .inr ⟨rfl, by omega⟩⟩
  have HQ := Lib.hid hq
  obtain ⟨a, cap, rfl, hc⟩ := h
  have HC := Lib.hid hc
  have HS := Lib.hid (fun k => allT_succ k z)
  have HB := Lib.hid (fun k (hk : k < n) h => show trN n z = 0 by unfold trN; rw [allT_bad (f := z) hk h]; simp)
  have HI := Lib.hid (fun x w => l1In_any x (-1000000) 1000000 w)
  have O0 := OF.empty0 w (trF n z)
  have b0 := (Below.refl w.heap.size w).alloc (Nat.le_refl _) (.cells #[] 3)
  clear hq hc
  go_enter Try.func16, Try.ntmps16
  go_wp2_with fail
  refine (HQ.out _).mono ?_
  rintro e w' ⟨rfl, rfl⟩
  go_wp2
  obtain ⟨W, hW⟩ : ∃ W, w.alloc (.cells #[] 3) = W := ⟨_, rfl⟩
  rw [hW] at O0 b0 ⊢
  have hzero : ∀ B (u : Value) (f : Nat → Int) (w' : World), OF w' B u 0 f → OF w' B u 0 f := fun _ _ _ _ h => h
  clear hzero HQ hW
  have HCW : Hid (∀ i, i < n → ∃ x : Addr, a = some x ∧ x.block < w.heap.size ∧ W.cell? (x.add i) = some (.int .i64 (z i))) := Lib.hid (fun i hi => by
    obtain ⟨x, e, h1, h2⟩ := HC.out i hi
    exact ⟨x, e, h1, (b0.cell (p := x.add i) (by rw [add_block]; exact h1)).trans h2⟩)
  clear HC
  go_loop [5] (fun i => ∃ k : Nat, k ≤ n ∧ i = .int .i64 k ∧ Hid (allT k z = true)) (fun i => n - (intOf i).toNat)
  case atStart => exact ⟨0, by omega, rfl, Lib.hid rfl⟩
  case round =>
    obtain ⟨k, hk, rfl, rA⟩ := hrel
    by_cases hlt : k < n
    · obtain ⟨x, rfl, hx, hcc⟩ := HCW.out k hlt
      have hb := HB.out k hlt
      have hs := HS.out k
      rw [rA.out, Bool.true_and] at hs
      have hi : inT (z k) = (decide (-1000000 ≤ z k) && decide (z k ≤ 1000000)) := rfl
      obtain ⟨y, hy⟩ : ∃ y, z k = y := ⟨_, rfl⟩
      rw [hy] at hcc hb hs hi
      have i0 : (0 : Int) ≤ (k : Int) := by omega
      have i1 : (k : Int) < (n : Int) := by omega
      have hI := fun w => HI.out y w
      rw [← hi] at hI
      clear hy hx rA hi
      cases hv : inT y with
      | true =>
        rw [hv] at hI
        have nA := Lib.hid (hs.trans hv)
        have HII := Lib.hid hI
        clear hb hs hI
        go_wp2_with fail
        refine (HII.out _).mono ?_
        rintro e w' ⟨rfl, rfl⟩
        go_wp2
        go_round
        case rel => exact ⟨k + 1, by omega, by go_num, nA⟩
        case measure => simp [intOf]; omega
      | false =>
        rw [hv] at hI
        have HA := Lib.hid (hb hv)
        have HII := Lib.hid hI
        clear hb hs hI
        go_wp2_with fail
        refine (HII.out _).mono ?_
        rintro e w' ⟨rfl, rfl⟩
        go_wp2
        go_ret
        exact ⟨_, rfl, by rw [HA.out]; exact O0, b0⟩
    · obtain rfl : k = n := by omega
      rcases hqi with ⟨hT, hq0⟩ | ⟨hT, hq0⟩
      · have htr : trN k z = k := by unfold trN; rw [hT, rA.out]; rfl
        have HTR := Lib.hid htr
        obtain ⟨b1, b2⟩ := isT_bd hT
        have HBD := Lib.hid (fun i j hj => part_bd (z := z) rA.out i j hj)
        have HZ := Lib.hid (fun j (hj : j < k) => allT_at rA.out hj)
        obtain ⟨x, rfl, hx, -⟩ := HCW.out 0 (by omega)
        have HX : Hid (x.block < w.heap.size) := Lib.hid hx
        have HXC : Hid (∀ i, i < k → W.cell? (x.add i) = some (.int .i64 (z i))) := Lib.hid (fun i hi => by
          obtain ⟨x', e, -, h2⟩ := HCW.out i hi
          injection e with e
          subst e
          exact h2)
        have HWS : Hid (w.heap.size ≤ W.heap.size) := Lib.hid b0.size
        have r0 : Below W.heap.size W W := Below.refl _ _
        have BW : Hid (Below w.heap.size w W) := Lib.hid b0
        clear HCW hx htr hT rA b0
        go_wp2
        go_loopw [3, 6] (fun o c wr => ∃ i : Nat, i ≤ k ∧ c = .int .i64 i ∧ OF wr w.heap.size o i (trF k z) ∧ Below w.heap.size W wr) (fun _ c _ => k - (intOf c).toNat)
        case atStart => exact ⟨0, by omega, rfl, O0, r0.mono HWS.out⟩
        case round =>
          obtain ⟨i, hi, rfl, rO, rb⟩ := hrel
          by_cases hil : i < k
          · have i0 : (0 : Int) ≤ (i : Int) := by omega
            have i1 : (i : Int) < (k : Int) := by omega
            go_wp2
            go_loopw [7, 8] (fun s c wr2 => ∃ j m : Nat, j ≤ k ∧ c = .int .i64 j ∧ s = .int .i64 (sumI (fun k => z k * wv i k) j) ∧ wr2 = wr.drewN m) (fun _ c _ => k - (intOf c).toNat)
            case atStart => exact ⟨0, 0, by omega, rfl, rfl, rfl⟩
            case round =>
              obtain ⟨j, m, hj, rfl, rfl, rfl⟩ := hrel
              by_cases hjl : j < k
              · obtain ⟨e1, e2⟩ := HBD.out i j (by omega)
                obtain ⟨t1, t2⟩ := HZ.out j hjl
                have cz : (wr.drewN m).cell? (x.add j) = some (.int .i64 (z j)) := (rb.cell (p := x.add j) (by rw [add_block]; exact HX.out)).trans (HXC.out j hjl)
                have hx := and64 i j (by omega) (by omega)
                have hP := fun w => l1Parity_any (i &&& j) w (by have := and_bd i j (by omega); omega)
                have hd : walF i j = par (i &&& j) := rfl
                have hw2 := walF_lt i j
                have hstep : sumI (fun k => z k * wv i k) (j + 1) = sumI (fun k => z k * wv i k) j + z j * wv i j := rfl
                obtain ⟨X, hX⟩ : ∃ X, i &&& j = X := ⟨_, rfl⟩
                rw [hX] at hx hP hd
                rw [← hd] at hP
                obtain ⟨S, hS⟩ : ∃ S, sumI (fun k => z k * wv i k) j = S := ⟨_, rfl⟩
                rw [hS] at e1 e2 hstep ⊢
                obtain ⟨y, hy⟩ : ∃ y, z j = y := ⟨_, rfl⟩
                rw [hy] at cz t1 t2 hstep
                obtain ⟨V, hV⟩ : ∃ V, wr.drewN m = V := ⟨_, rfl⟩
                rw [hV] at cz ⊢
                have HV := Lib.hid hV
                have j0 : (0 : Int) ≤ (j : Int) := by omega
                have j1 : (j : Int) < (k : Int) := by omega
                have f1 : -64000000 ≤ S := by omega
                have f2 : S ≤ 64000000 := by omega
                by_cases hb : walF i j = 0
                · rw [wv_zero hb, Int.mul_one] at hstep
                  rw [hb] at hP
                  have HP : Hid (∀ w, Calls Try.prog 72 #[.int .i64 (X : Nat)] w fun e w' => e = .returned (.int .i64 0) ∧ w = w') := Lib.hid hP
                  have HS2 := Lib.hid hstep
                  clear hP hstep hS hy hV hb hd hw2 hX e1 e2
                  go_wp2_with fail
                  go_quiet ((go_at_call 72; exact quiet_same (HP.out _)))
                  clear cz hx
                  go_wp2
                  go_roundw
                  case rel => exact ⟨j + 1, m + nq, by omega, by go_num, by rw [HS2.out], by rw [← HV.out, World.drewN_drewN]⟩
                  case measure => simp [intOf]; omega
                · have hb1 : walF i j = 1 := by omega
                  rw [wv_one hb1, Int.mul_neg, Int.mul_one] at hstep
                  rw [hb1] at hP
                  have HP : Hid (∀ w, Calls Try.prog 72 #[.int .i64 (X : Nat)] w fun e w' => e = .returned (.int .i64 1) ∧ w = w') := Lib.hid hP
                  have HS2 := Lib.hid hstep
                  clear hP hstep hS hy hV hb hb1 hd hw2 hX e1 e2
                  go_wp2_with fail
                  go_quiet ((go_at_call 72; exact quiet_same (HP.out _)))
                  clear cz hx
                  go_wp2
                  go_roundw
                  case rel => exact ⟨j + 1, m + nq, by omega, by go_num, by rw [HS2.out], by rw [← HV.out, World.drewN_drewN]⟩
                  case measure => simp [intOf]; omega
              · obtain rfl : j = k := by omega
                have O2 := rO.drewN m
                have c2 := below_drewN rb m
                have HE : Hid (sumI (fun k => z k * wv i k) j = trF j z i) := Lib.hid rfl
                obtain ⟨Y, hY⟩ : ∃ Y, sumI (fun k => z k * wv i k) j = Y := ⟨_, rfl⟩
                rw [hY] at HE ⊢
                obtain ⟨V, hV⟩ : ∃ V, wr.drewN m = V := ⟨_, rfl⟩
                rw [hV] at O2 c2 ⊢
                have bs : w.heap.size ≤ V.heap.size := Nat.le_trans HWS.out c2.size
                clear hV hY rO rb
                go_wp2_with (at_builtin; refine wpList_append_int rfl (.tmp 55) (.tmp 57) rfl w.heap.size _ i (trF j z) rfl (O2.alloc _) V.heap.size 1 Y rfl (by simp) (by omega) (by simp; omega) ?_; intro v' w3 O3 g3; have c3 : Below w.heap.size W w3 := (c2.alloc bs _).grown g3 (by simp; omega) (fun q hq => (O2.lt q hq).1); have O4 := OF.snocF O3 HE.out; clear O2 g3 c2 O3)
                go_roundw
                case rel => exact ⟨i + 1, by omega, by go_num, O4, c3⟩
                case measure => simp [intOf]; omega
          · obtain rfl : i = k := by omega
            go_wp2
            go_ret
            exact ⟨_, rfl, by rw [HTR.out]; exact rO, BW.out.trans rb⟩
      · have htr : trN k z = 0 := by unfold trN; rw [hT]; rfl
        have HTR := Lib.hid htr
        have nq : ¬ (0 ≤ q) := by omega
        clear htr hT rA
        go_wp2
        go_loop [3, 6] (fun o i => o = .slice (some ⟨w.heap.size, 0, none⟩) 0 0 ∧ i = .int .i64 0) (fun _ i => 0)
        case atStart => exact ⟨rfl, rfl⟩
        case round =>
          obtain ⟨rfl, rfl⟩ := hrel
          go_wp2
          go_ret
          exact ⟨_, rfl, by rw [HTR.out]; exact O0, b0⟩
theorem own_apart {u v : Value} {C : Nat} (h1 : ∀ k, u.ownBlock = some k → k < C) (h2 : ∀ k, v.ownBlock = some k → C ≤ k) : u.ownBlock = none ∨ u.ownBlock ≠ v.ownBlock := by
  cases h0 : u.ownBlock with
  | none => exact .inl rfl
  | some k0 =>
    right
    intro h
    have := h1 k0 h0
    have := h2 k0 h.symm
    omega
theorem own_apart' {u v : Value} {C : Nat} (h1 : ∀ k, u.ownBlock = some k → C ≤ k) (h2 : ∀ k, v.ownBlock = some k → k < C) : u.ownBlock = none ∨ u.ownBlock ≠ v.ownBlock := by
  cases h0 : u.ownBlock with
  | none => exact .inl rfl
  | some k0 =>
    right
    intro h
    have := h1 k0 h0
    have := h2 k0 h.symm
    omega
end Go.Proofs.Ytkkakfkebjdkeaa
