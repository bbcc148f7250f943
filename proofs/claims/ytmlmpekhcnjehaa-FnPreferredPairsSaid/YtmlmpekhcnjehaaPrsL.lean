/- The pairs of a list that a test picks, row by row; the laws' helpers on slices of pairs. -/
import Derived.Test.YtmlmpekhcnjehaaPrs
import Derived.StillTailTactics
import Derived.BigQuiet
namespace Go.Proofs.Ytmlmpekhcnjehaa
open Go.RowKit
set_option linter.unusedVariables false
set_option maxRecDepth 100000
def rowL (F : Nat → Int) (T : Nat → Nat → Bool) (k : Nat) : Nat → List (Int × Int)
  | 0 => []
  | j + 1 => rowL F T k j ++ if k < j ∧ T k j = true then [(F k, F j)] else []
def allL (F : Nat → Int) (T : Nat → Nat → Bool) (n : Nat) : Nat → List (Int × Int)
  | 0 => []
  | k + 1 => allL F T n k ++ rowL F T k n
theorem rowL_skip {F : Nat → Int} {T : Nat → Nat → Bool} {k : Nat} : ∀ j, j ≤ k + 1 → rowL F T k j = []
  | 0, _ => rfl
  | j + 1, h => by simp only [rowL]; rw [rowL_skip j (by omega), if_neg (by omega)]; rfl
theorem rowL_yes {F : Nat → Int} {T : Nat → Nat → Bool} {k j : Nat} (h : k < j) (ht : T k j = true) : rowL F T k (j + 1) = rowL F T k j ++ [(F k, F j)] := by
  simp only [rowL]; rw [if_pos ⟨h, ht⟩]
theorem rowL_no {F : Nat → Int} {T : Nat → Nat → Bool} {k j : Nat} (ht : T k j = false) : rowL F T k (j + 1) = rowL F T k j := by
  simp only [rowL]; rw [if_neg (fun h => by rw [ht] at h; cases h.2), List.append_nil]
theorem rowL_len (F : Nat → Int) (T : Nat → Nat → Bool) (k : Nat) : ∀ j, (rowL F T k j).length ≤ j
  | 0 => Nat.le_refl _
  | j + 1 => by
    have := rowL_len F T k j
    simp only [rowL]
    rw [List.length_append]
    split <;> simp <;> omega
theorem rowL_congr {F : Nat → Int} {T T' : Nat → Nat → Bool} {k : Nat} : ∀ m, (∀ j, k < j → j < m → T k j = T' k j) → rowL F T k m = rowL F T' k m
  | 0, _ => rfl
  | m + 1, h => by
    simp only [rowL]
    rw [rowL_congr m (fun j h1 h2 => h j h1 (by omega))]
    by_cases hk : k < m
    · rw [h m hk (by omega)]
    · rw [if_neg (fun h => hk h.1), if_neg (fun h => hk h.1)]
theorem allL_congr {F : Nat → Int} {T T' : Nat → Nat → Bool} {n : Nat} (h : ∀ i j, i < j → j < n → T i j = T' i j) : ∀ k, allL F T n k = allL F T' n k
  | 0 => rfl
  | k + 1 => by
    simp only [allL]
    rw [allL_congr h k, rowL_congr n (fun j h1 h2 => h k j h1 h2)]
theorem rowL_none {F : Nat → Int} {T : Nat → Nat → Bool} {k : Nat} : ∀ m, (∀ j, k < j → j < m → T k j = false) → rowL F T k m = []
  | 0, _ => rfl
  | m + 1, h => by
    simp only [rowL]
    rw [rowL_none m (fun j h1 h2 => h j h1 (by omega)), if_neg (fun hh => by rw [h m hh.1 (by omega)] at hh; cases hh.2)]; rfl
theorem allL_none {F : Nat → Int} {T : Nat → Nat → Bool} {n : Nat} (h : ∀ i j, i < j → j < n → T i j = false) : ∀ k, allL F T n k = []
  | 0 => rfl
  | k + 1 => by
    simp only [allL]
    rw [allL_none h k, rowL_none n (fun j h1 h2 => h k j h1 h2)]; rfl
theorem allL_len (F : Nat → Int) (T : Nat → Nat → Bool) (n : Nat) (hn : n ≤ 300) : ∀ k, (allL F T n k).length ≤ k * 300
  | 0 => Nat.zero_le _
  | k + 1 => by
    have h1 := allL_len F T n hn k
    have h2 := rowL_len F T k n
    simp only [allL]
    rw [List.length_append]
    omega
def LP (l : List (Int × Int)) (i : Nat) : Int × Int := l.getD i (0, 0)
theorem prL_congr {n : Nat} {f g : Nat → Int × Int} (h : ∀ i, i < n → f i = g i) : prL n f = prL n g := by
  unfold prL
  exact List.map_congr_left fun t ht => by rw [h (t / 2) (by have := List.mem_range.1 ht; omega)]
theorem LP_snoc (l : List (Int × Int)) (y : Int × Int) (i : Nat) (h : i < l.length + 1) : (if i < l.length then LP l i else y) = LP (l ++ [y]) i := by
  unfold LP
  by_cases e : i < l.length
  · rw [if_pos e, List.getD_eq_getElem?_getD, List.getD_eq_getElem?_getD, List.getElem?_append_left e]
  · obtain rfl : i = l.length := by omega
    rw [if_neg e, List.getD_eq_getElem?_getD]; simp
theorem prL_set {n p : Nat} {f g : Nat → Int × Int} {y : Int} (h : ∀ t, t < n * 2 → (if t % 2 = 0 then (g (t / 2)).1 else (g (t / 2)).2) = if t = p then y else (if t % 2 = 0 then (f (t / 2)).1 else (f (t / 2)).2)) :
    (prL n f).set p (.int .i64 y) = prL n g := by
  apply List.ext_getElem?
  intro t
  by_cases ht : t < n * 2
  · rw [List.getElem?_set, prL_at ht, prL_at ht, h t ht]
    by_cases e : p = t
    · rw [if_pos e, if_pos (by rw [prL_len]; omega), if_pos e.symm]
    · rw [if_neg e, if_neg (show ¬ t = p from fun x => e x.symm)]
  · rw [List.getElem?_eq_none (by rw [List.length_set, prL_len]; omega), List.getElem?_eq_none (by rw [prL_len]; omega)]
def upP (f : Nat → Int × Int) (k : Nat) (u : Int × Int) (i : Nat) : Int × Int := if i = k then u else f i
/-- The marks on pairs. -/
def mkP (i : Nat) : Int × Int := (1 + 2 * (i : Int), 1 + 2 * (i : Int) + 1)
theorem PF.congr {w : World} {B : Nat} {v : Value} {n : Nat} {f g : Nat → Int × Int} (h : PF w B v n f) (e : ∀ i, i < n → f i = g i) : PF w B v n g := by
  unfold PF at h ⊢
  rw [← prL_congr e]; exact h
theorem PF.snocL {w : World} {B : Nat} {v : Value} {l : List (Int × Int)} {y : Int × Int} (h : PF w B v (l.length + 1) (fun i => if i < l.length then LP l i else y)) : PF w B v (l ++ [y]).length (LP (l ++ [y])) := by
  rw [show (l ++ [y]).length = l.length + 1 by simp]
  exact h.congr fun i hi => LP_snoc l y i hi
theorem PF.nil (w : World) (B : Nat) (f : Nat → Int × Int) : PF w B (.slice none 0 0) 0 f := World.ownsRow_nil w B _ 2
theorem PF.mono {w : World} {B C : Nat} {v : Value} {n : Nat} {f : Nat → Int × Int} (h : PF w B v n f) (hC : C ≤ B) : PF w C v n f := by
  obtain ⟨h1, ⟨rfl, rfl⟩ | ⟨g, cap, cur, rfl, hB, hg, hn, hm, hs, ht⟩⟩ := h
  · exact ⟨h1, .inl ⟨rfl, rfl⟩⟩
  · exact ⟨h1, .inr ⟨g, cap, cur, rfl, Nat.le_trans hC hB, hg, hn, hm, hs, ht⟩⟩
theorem PF.free {w : World} {B g n cap : Nat} {f : Nat → Int × Int} (h : PF w B (.slice (some ⟨g, 0, none⟩) n cap) n f) (j : Nat) : w.frozen? ⟨g, j, none⟩ = false := World.ownsRow.frozenAt h j
theorem PF.drewN {w : World} {B : Nat} {v : Value} {n : Nat} {f : Nat → Int × Int} (h : PF w B v n f) (m : Nat) : PF (w.drewN m) B v n f := h.below (below_drewN (Below.refl _ _) m)
theorem PF.both {w : World} {B g cap n : Nat} {f : Nat → Int × Int} (h : PF w B (.slice (some ⟨g, 0, none⟩) n cap) n f) (k : Nat) (x y : Int) :
    PF ((w.setCell ⟨g, k * 2, none⟩ (.int .i64 x)).setCell ⟨g, k * 2 + 1, none⟩ (.int .i64 y)) B (.slice (some ⟨g, 0, none⟩) n cap) n (upP f k (x, y)) := by
  have h1 : PF (w.setCell ⟨g, k * 2, none⟩ (.int .i64 x)) B (.slice (some ⟨g, 0, none⟩) n cap) n (upP f k (x, (f k).2)) := by
    have := (World.ownsRow.stored h (k * 2) (.int .i64 x)).1
    rw [prL_set (g := upP f k (x, (f k).2)) (fun t ht => by
      unfold upP
      by_cases e : t / 2 = k
      · subst e
        by_cases e2 : t % 2 = 0
        · simp only [if_true, if_pos e2, if_pos (show t = t / 2 * 2 by omega)]
        · simp only [if_true, if_neg e2, if_neg (show ¬ t = t / 2 * 2 by omega)]
      · simp only [if_neg e, if_neg (show ¬ t = k * 2 by omega)])] at this
    exact this
  have := (World.ownsRow.stored h1 (k * 2 + 1) (.int .i64 y)).1
  rw [prL_set (g := upP f k (x, y)) (fun t ht => by
    unfold upP
    by_cases e : t / 2 = k
    · subst e
      by_cases e2 : t % 2 = 0
      · simp only [if_true, if_pos e2, if_neg (show ¬ t = t / 2 * 2 + 1 by omega)]
      · simp only [if_true, if_neg e2, if_pos (show t = t / 2 * 2 + 1 by omega)]
    · simp only [if_neg e, if_neg (show ¬ t = k * 2 + 1 by omega)])] at this
  exact this
theorem eqPair_same (A D : Int) (w : World) :
    Calls Try.prog 25 #[.agg #[.int .i64 A, .int .i64 D], .agg #[.int .i64 A, .int .i64 D]] w fun e w' => e = .returned (.bool true) ∧ Below w.heap.size w w' := by
  go_enter Try.func25, Try.ntmps25
  go_wp2
  go_ret
  refine ⟨rfl, ?_⟩
  go_grown
set_option maxHeartbeats 1600000 in
theorem eqPairS_same (v u : Value) (B C n : Nat) (f : Nat → Int × Int) (w : World) (hv : PF w B v n f) (hu : PF w C u n f) (hn : n ≤ 1048576) :
    Calls Try.prog 8 #[v, u] w fun e w' => e = .returned (.bool true) ∧ Below w.heap.size w w' := by
  obtain ⟨a, cap, rfl, ha⟩ := hv.form
  obtain ⟨b, cap', rfl, hb⟩ := hu.form
  have HA := Lib.hid ha
  have HB := Lib.hid hb
  clear ha hb
  have HV := Lib.hid hv
  have HU := Lib.hid hu
  clear hv hu
  go_enter Try.func8, Try.ntmps8
  go_wp2
  go_loopw [5] (fun i wr => ∃ k : Nat, k ≤ n ∧ i = .int .i64 k ∧ Below w.heap.size w wr) (fun i _ => n - (intOf i).toNat)
  case atStart => exact ⟨0, by omega, rfl, Below.refl _ _⟩
  case round =>
    obtain ⟨k, hk, rfl, rb⟩ := hrel
    by_cases hlt : k < n
    · obtain ⟨x, rfl, -, hx⟩ := HA.out (by omega)
      obtain ⟨y, rfl, -, hy⟩ := HB.out (by omega)
      obtain ⟨c0, c1⟩ := (HV.out.below rb).cells k hlt
      obtain ⟨d0, d1⟩ := (HU.out.below rb).cells k hlt
      have i0 : (0 : Int) ≤ (k : Int) := by omega
      have i1 : (k : Int) < (n : Int) := by omega
      obtain ⟨A, hA⟩ : ∃ C, (f k).1 = C := ⟨_, rfl⟩
      obtain ⟨D, hD⟩ : ∃ C, (f k).2 = C := ⟨_, rfl⟩
      rw [hA] at c0 d0
      rw [hD] at c1 d1
      clear hA hD
      have rd := below_drew rb
      go_wp2_with fail
      go_still_tail 8, (by kernel_rfl)
      clear c0 c1 d0 d1
      go_wp2_with fail
      refine (eqPair_same A D _).mono ?_
      rintro e w5 ⟨rfl, hb⟩
      have r5 := below_then rd (Nat.le_refl _) hb
      clear hb rd rb
      go_wp2
      go_roundw
      case rel => exact ⟨k + 1, by omega, by go_num, r5⟩
      case measure => simp [intOf]; omega
    · obtain rfl : n = k := by omega
      go_wp2
      go_ret
      exact ⟨rfl, rb⟩
set_option maxHeartbeats 3200000 in
theorem markPairS_any (v : Value) (B n : Nat) (f : Nat → Int × Int) (w : World) (hv : PF w B v n f) (hn : n ≤ 1048576) :
    Calls Try.prog 9 #[v, .int .i64 1] w fun e w' => e = .returned (.int .i64 (1 + 2 * (n : Int))) ∧ PF w' B v n mkP ∧ w.grownBy w' v.ownBlock := by
  obtain ⟨a, cap, rfl, ha⟩ := hv.form
  by_cases h0 : 0 < n
  · obtain ⟨g, rfl, hBg, hgl⟩ := ha h0
    clear ha
    have HV := Lib.hid hv
    clear hv
    go_enter Try.func9, Try.ntmps9
    go_wp2
    go_loopw [5, 1] (fun i q wr => ∃ (k : Nat) (F : Nat → Int × Int), k ≤ n ∧ i = .int .i64 k ∧ q = .int .i64 (1 + 2 * (k : Int)) ∧ PF wr B (.slice (some ⟨g, 0, none⟩) n cap) n F ∧ Hid (∀ i, i < k → F i = mkP i) ∧ w.grownBy wr (some g)) (fun i _ _ => n - (intOf i).toNat)
    case atStart => exact ⟨0, f, by omega, rfl, rfl, HV.out, Lib.hid (fun i hi => absurd hi (Nat.not_lt_zero i)), ⟨rfl, rfl, rfl, Nat.le_refl _, fun _ _ _ => rfl⟩⟩
    case round =>
      obtain ⟨k, F, hk, rfl, rfl, rO, rF, rg⟩ := hrel
      by_cases hlt : k < n
      · have i0 : (0 : Int) ≤ (k : Int) := by omega
        have i1 : (k : Int) < (n : Int) := by omega
        have one : Hid (∀ (W : World) (p : Nat) (u : Value), W.grownBy (W.setCell ⟨g, p, none⟩ u) (some g)) := Lib.hid (fun W p u => ⟨rfl, rfl, rfl, by simp, fun k hk hne => Below.heap_setCell _ _ _ _ (fun e => hne (by rw [e]))⟩)
        obtain ⟨c0, c1⟩ := rO.cells k hlt
        have fr := rO.free
        have O8 := Lib.hid (rO.both k (1 + 2 * (k : Int)) (1 + 2 * (k : Int) + 1))
        have F8 : Hid (∀ i, i < k + 1 → upP F k (1 + 2 * (k : Int), 1 + 2 * (k : Int) + 1) i = mkP i) := Lib.hid (fun i hi => by
          unfold upP
          by_cases e : i = k
          · rw [if_pos e, e]; rfl
          · rw [if_neg e]; exact rF.out i (by omega))
        have g8 := Lib.hid ((rg.trans (one.out _ (k * 2) (.int .i64 (1 + 2 * (k : Int))))).trans (one.out _ (k * 2 + 1) (.int .i64 (1 + 2 * (k : Int) + 1))))
        clear rO rg rF
        go_wp2
        go_roundw
        case rel => exact ⟨k + 1, _, by omega, by go_num, by go_num, O8.out, F8, g8.out⟩
        case measure => simp [intOf]; omega
      · obtain rfl : n = k := by omega
        have O9 := Lib.hid (rO.congr rF.out)
        clear rO rF
        go_wp2
        go_ret
        exact ⟨rfl, O9.out, rg⟩
  · obtain rfl : n = 0 := by omega
    clear ha
    have HV := Lib.hid (hv.congr (g := mkP) (fun i hi => absurd hi (Nat.not_lt_zero i)))
    clear hv
    go_enter Try.func9, Try.ntmps9
    go_wp2
    go_loop [5, 1] (fun i q => i = .int .i64 (0 : Nat) ∧ q = .int .i64 1) (fun i _ => (intOf i).toNat)
    case atStart => exact ⟨rfl, rfl⟩
    case round =>
      obtain ⟨rfl, rfl⟩ := hrel
      go_wp2
      go_ret
      exact ⟨rfl, HV.out, ⟨rfl, rfl, rfl, Nat.le_refl _, fun _ _ _ => rfl⟩⟩
set_option maxHeartbeats 3200000 in
theorem heldPairS_any (v : Value) (B n : Nat) (w : World) (hv : PF w B v n mkP) (hn : n ≤ 1048576) :
    Calls Try.prog 10 #[v, .int .i64 1] w fun e w' => e = .returned (.int .i64 (1 + 2 * (n : Int))) ∧ Below w.heap.size w w' := by
  obtain ⟨a, cap, rfl, hc⟩ := hv.form
  have HC := Lib.hid hc
  have HV := Lib.hid hv
  clear hc hv
  go_enter Try.func10, Try.ntmps10
  go_wp2
  go_loopw [5, 1] (fun i q wr => ∃ k : Nat, k ≤ n ∧ i = .int .i64 k ∧ q = .int .i64 (1 + 2 * (k : Int)) ∧ Below w.heap.size w wr) (fun i _ _ => n - (intOf i).toNat)
  case atStart => exact ⟨0, by omega, rfl, rfl, Below.refl _ _⟩
  case round =>
    obtain ⟨k, hk, rfl, rfl, rb⟩ := hrel
    by_cases hlt : k < n
    · obtain ⟨g, rfl, -, hgl⟩ := HC.out (by omega)
      have i0 : (0 : Int) ≤ (k : Int) := by omega
      have i1 : (k : Int) < (n : Int) := by omega
      obtain ⟨c0, c1⟩ := (HV.out.below rb).cells k hlt
      unfold mkP at c0 c1
      dsimp only at c0 c1
      go_wp2
      go_roundw
      case rel => exact ⟨k + 1, by omega, by go_num, by go_num, rb⟩
      case measure => simp [intOf]; omega
    · obtain rfl : k = n := by omega
      go_wp2
      go_ret
      exact ⟨rfl, rb⟩
end Go.Proofs.Ytmlmpekhcnjehaa
