/- Which state comes back first: plain mathematics. Contracts of orbitOf of the program. Contracts of l1Walk, PeriodOf and LeadOf of the model. -/
import Derived.Test.YtmlmpekhcnjehaaRegBase
import Derived.Deep.OwnRows
namespace Go.Proofs.Ytmlmpekhcnjehaa
/-- How many numbers below k have p. -/
def cnt (p : Nat → Bool) : Nat → Nat
  | 0 => 0
  | k + 1 => cnt p k + (if p k then 1 else 0)
theorem cnt_le (p : Nat → Bool) : ∀ k, cnt p k ≤ k
  | 0 => Nat.le_refl _
  | k + 1 => by have := cnt_le p k; simp only [cnt]; split <;> omega
theorem cnt_more (p q : Nat → Bool) (a : Nat) (hp : p a = false) (hq : ∀ v, q v = (p v || v == a)) : ∀ k, cnt q k = cnt p k + (if a < k then 1 else 0)
  | 0 => by simp [cnt]
  | k + 1 => by
    have ih := cnt_more p q a hp hq k
    simp only [cnt]
    rw [ih, hq k]
    by_cases h : k = a
    · subst h
      simp [hp]
    · have h1 : (k == a) = false := by simp [h]
      rw [h1, Bool.or_false]
      by_cases h2 : a < k
      · rw [if_pos h2, if_pos (show a < k + 1 by omega)]; omega
      · rw [if_neg h2, if_neg (show ¬ a < k + 1 by omega)]; try omega
/-- The number of the step, from 1, at which the value v is met last among the first n states; 0 if it isn't. -/
def idx (s t x : Nat) : Nat → Nat → Nat
  | 0, _ => 0
  | n + 1, v => if stepsN s t n x = v then n + 1 else idx s t x n v
theorem idx_le (s t x : Nat) : ∀ n v, idx s t x n v ≤ n
  | 0, _ => Nat.le_refl _
  | n + 1, v => by have := idx_le s t x n v; simp only [idx]; split <;> omega
theorem cnt_zero (p : Nat → Bool) (hp : ∀ v, p v = false) : ∀ k, cnt p k = 0
  | 0 => rfl
  | k + 1 => by simp [cnt, hp k, cnt_zero p hp k]
theorem cnt_idx {s t x : Nat} (hr : RegN s t x) (n : Nat) (h : ∀ m, m < n → idx s t x m (stepsN s t m x) = 0) : cnt (fun v => decide (idx s t x n v ≠ 0)) 256 = n := by
  induction n with
  | zero => exact cnt_zero _ (fun v => by simp [idx]) 256
  | succ n ih =>
    have h1 := ih (fun m hm => h m (by omega))
    have h2 := h n (by omega)
    have h3 := (hr.steps n).lt
    have h4 := tw_le s hr.hi
    rw [cnt_more (fun v => decide (idx s t x n v ≠ 0)) _ (stepsN s t n x) (by simp [h2]) (fun v => ?_) 256, h1, if_pos (by omega)]
    simp only [idx]
    by_cases hv : stepsN s t n x = v
    · simp [hv]
    · have : (v == stepsN s t n x) = false := by simp; exact fun e => hv e.symm
      simp [hv, this]
/-- There is a first state that comes back. -/
theorem orbit_ends {s t x : Nat} (hr : RegN s t x) : ∃ N, N ≤ 256 ∧ idx s t x N (stepsN s t N x) ≠ 0 ∧ ∀ m, m < N → idx s t x m (stepsN s t m x) = 0 := by
  have key : ∀ n, (∀ m, m < n → idx s t x m (stepsN s t m x) = 0) ∨ ∃ N, N < n ∧ idx s t x N (stepsN s t N x) ≠ 0 ∧ ∀ m, m < N → idx s t x m (stepsN s t m x) = 0 := by
    intro n
    induction n with
    | zero => exact .inl fun m hm => absurd hm (Nat.not_lt_zero m)
    | succ n ih =>
      rcases ih with ih | ⟨N, h1, h2⟩
      · by_cases h : idx s t x n (stepsN s t n x) = 0
        · left
          intro m hm
          by_cases hmn : m = n
          · subst hmn; exact h
          · exact ih m (by omega)
        · exact .inr ⟨n, by omega, h, ih⟩
      · exact .inr ⟨N, by omega, h2⟩
  rcases key 257 with h | ⟨N, h1, h2⟩
  · have h1 := cnt_idx hr 257 h
    have h2 := cnt_le (fun v => decide (idx s t x 257 v ≠ 0)) 256
    omega
  · exact ⟨N, by omega, h2⟩
end Go.Proofs.Ytmlmpekhcnjehaa
namespace Go.Proofs.Ytmlmpekhcnjehaa
open Go.RowKit
/-- The array of visits, behind n steps. -/
def VisAt (w : World) (b : Nat) (s t x n : Nat) : Prop :=
  (∀ v : Nat, v < 256 → w.cell? ⟨b, v, none⟩ = some (.int .i64 (idx s t x n v : Nat))) ∧ (∀ o, w.frozen? ⟨b, o, none⟩ = false) ∧ b < w.heap.size
set_option maxRecDepth 100000 in
theorem zero76 : Try.zeroCells95 = Array.replicate 256 (.int .i64 0) := by kernel_rfl
theorem VisAt.start {w : World} {b s t x : Nat} (hb : b = w.heap.size) : VisAt (w.alloc (.cells Try.zeroCells95 95)) b s t x 0 := by
  subst hb
  refine ⟨fun v hv => ?_, fun o => by simp, by simp⟩
  have : (Array.replicate 256 (Value.int .i64 0))[v]? = some (.int .i64 0) := by
    rw [Array.getElem?_replicate, if_pos hv]
  rw [zero76]
  generalize Array.replicate 256 (Value.int .i64 0) = A at this
  simp [this, idx]
theorem VisAt.set {w : World} {b s t x n y : Nat} (h : VisAt w b s t x n) (hy : stepsN s t n x = y) :
    VisAt (w.setCell ⟨b, y, none⟩ (.int .i64 (n + 1 : Nat))) b s t x (n + 1) := by
  obtain ⟨h1, h2, h3⟩ := h
  refine ⟨fun v hv => ?_, fun o => by simp [World.frozen?_setCell, h2], by simp; omega⟩
  by_cases hv' : v = y
  · subst hv'
    have e : idx s t x (n + 1) v = n + 1 := by simp [idx, hy]
    rw [e]
    exact World.cell?_setCell_same _ _ _ (h1 v hv)
  · have e : idx s t x (n + 1) v = idx s t x n v := by simp only [idx]; rw [if_neg (by omega)]
    rw [e, ← h1 v hv]
    exact World.cell?_setCell_other _ _ _ _ (by intro e; injection e with _ e; exact hv' e.symm)
set_option maxRecDepth 100000 in
theorem iOrbit_any (s t x : Nat) (w : World) (h : RegN s t x) (N : Nat) (hN : N ≤ 256) (h0 : idx s t x N (stepsN s t N x) ≠ 0) (hm : ∀ m, m < N → idx s t x m (stepsN s t m x) = 0) :
    Calls Try.prog 59 #[.agg #[.int .i64 s, .int .i64 t, .int .i64 x]] w fun e w' => e = .returned (.tuple #[.int .i64 ((idx s t x N (stepsN s t N x) : Int) - 1), .int .i64 ((N : Int) + 1 - idx s t x N (stepsN s t N x))]) ∧ Below w.heap.size w w' := by
  go_enter Try.func59, Try.ntmps59
  go_wp2_with fail
  go_loopw [5] (fun i wr => ∃ n : Nat, n ≤ N ∧ i = .int .i64 ((n + 1 : Nat) : Int) ∧ RegAt wr w.heap.size s t (stepsN s t n x : Nat) ∧ wr.frozen? ⟨w.heap.size, 2, none⟩ = false ∧ VisAt wr (w.heap.size + 1) s t x n ∧ Below w.heap.size w wr) (fun i _ => N + 1 - (intOf i).toNat)
  case atStart =>
    refine ⟨0, by omega, rfl, ?_, ?_, VisAt.start (by simp), ((Below.refl _ w).alloc (Nat.le_refl _) _).alloc (by simp) _⟩
    · exact (RegAt.new w 57 s t x).below (B := w.heap.size + 1) ((Below.refl _ _).alloc (by simp) _) (by omega)
    · simp
  case round =>
    obtain ⟨n, hn, rfl, rA, rf, rV, rb⟩ := hrel
    obtain ⟨c0, c1, c2, cl⟩ := id rA
    obtain ⟨y, hy⟩ : ∃ y, stepsN s t n x = y := ⟨_, rfl⟩
    have hy1 := (h.steps n).lt
    have hy2 := tw_le s h.hi
    rw [hy] at c2 hy1
    have hz1 : (0 : Int) ≤ (y : Int) := by omega
    have hz2 : (y : Int) < 256 := by omega
    have hv := rV.1 y (by omega)
    have hf := rV.2.1 y
    have HY := Lib.hid hy
    clear hy1 hy2
    by_cases hq : idx s t x n y = 0
    · have hlt : n < N := by
        by_cases e : n = N
        · subst e; rw [hy] at h0; exact absurd hq h0
        · omega
      rw [hq] at hv
      clear hy
      go_wp2_with fail
      have kV := VisAt.set rV HY.out
      have kg : wr.grownBy (wr.setCell ⟨w.heap.size + 1, y, none⟩ (.int .i64 (n + 1 : Nat))) (some (w.heap.size + 1)) := ⟨rfl, rfl, rfl, by simp, fun k hk hne => Below.heap_setCell _ _ _ _ (fun e => hne (by rw [e]))⟩
      have kA := rA.kept kg (by simp)
      have kf := frozen_kept' rf rA.2.2.2 kg (by simp)
      have kb := rb.grown kg rb.size (fun k e => by cases e; exact Nat.le_succ _)
      refine (step_any w.heap.size s t _ _ (h.steps n) kA kf).mono ?_
      rintro e w2 ⟨⟨v, rfl⟩, qA, qf, hg⟩
      have qb := kb.grown hg kb.size (fun k e => by cases e; exact Nat.le_refl _)
      have qV : VisAt w2 (w.heap.size + 1) s t x (n + 1) := ⟨fun v hv => hg.cell (kV.1 v hv) (by simp), fun o => frozen_kept' (kV.2.1 o) kV.2.2 hg (by simp), Nat.lt_of_lt_of_le kV.2.2 hg.size⟩
      clear rA rf rV rb kA kf kV kb kg c0 c1 c2 cl hv hf hg
      go_wp2
      go_roundw
      case rel => exact ⟨n + 1, by omega, by go_num, qA, qf, qV, qb⟩
      case measure => simp [intOf]; omega
    · have hnN : n = N := by
        by_cases e : n = N
        · exact e
        · have := hm n (by omega); rw [hy] at this; exact absurd this hq
      subst hnN
      obtain ⟨q, hq'⟩ : ∃ q, idx s t x n y = q := ⟨_, rfl⟩
      have hqn : q ≤ n := by rw [← hq']; exact idx_le s t x n y
      have HQ : Hid (idx s t x n (stepsN s t n x) = q) := Lib.hid (by rw [hy]; exact hq')
      rw [hq'] at hv hq
      have hq0 : ¬ ((q : Int) = 0) := by omega
      clear hy hq' h0 hm
      have e1 : wrap64 ((q : Int) - 1) = q - 1 := by first | exact IntWalk.i64_in _ (by omega) | (unfold wrap64; omega)
      have e2 : wrap64 ((n : Int) + 1 - q) = n + 1 - q := by first | exact IntWalk.i64_in _ (by omega) | (unfold wrap64; omega)
      go_wp2_with fail
      refine bodyPost_ret (v := .tuple #[.int .i64 ((q : Int) - 1), .int .i64 ((n : Int) + 1 - q)]) (by simp [results, Try.results59, go_sem]) rfl ⟨?_, rb⟩
      rw [HQ.out]
theorem oRegisterValid_yes (s t x : Nat) (w : World) (h : RegN s t x) :
    Calls Try.prog 53 #[.agg #[.int .i64 s, .int .i64 t, .int .i64 x]] w fun e w' => e = .returned (.bool true) ∧ Below w.heap.size w w' := by
  rw [← h.valid]; exact iRegisterValid_any _ _ _ w
theorem oRegisterValid_no (S T X : Int) (w : World) (h : regB S T X = false) :
    Calls Try.prog 53 #[.agg #[.int .i64 S, .int .i64 T, .int .i64 X]] w fun e w' => e = .returned (.bool false) ∧ Below w.heap.size w w' := by
  rw [← h]; exact iRegisterValid_any _ _ _ w
theorem iPeriodOf_yes (s t x : Nat) (w : World) (h : RegN s t x) (N : Nat) (hN : N ≤ 256) (h0 : idx s t x N (stepsN s t N x) ≠ 0) (hm : ∀ m, m < N → idx s t x m (stepsN s t m x) = 0) :
    Calls Try.prog 37 #[.agg #[.int .i64 s, .int .i64 t, .int .i64 x]] w fun e w' => e = .returned (.int .i64 ((N : Int) + 1 - idx s t x N (stepsN s t N x))) ∧ Below w.heap.size w w' := by
  have HC := Lib.hid (fun w => iOrbit_any s t x w h N hN h0 hm)
  have hR := oRegisterValid_yes s t x
  generalize idx s t x N (stepsN s t N x) = q at *
  clear hN h0 hm
  go_enter Try.func37, Try.ntmps37
  go_wp2_with fail
  refine (hR _ h).mono ?_
  rintro e w1 ⟨rfl, hb1⟩
  have b1 := below_then ((Below.refl _ w).alloc (Nat.le_refl _) _) (by simp) hb1
  obtain ⟨c0, c1, c2, cl⟩ := (RegAt.new w 57 s t x).below hb1 (by simp)
  clear hb1
  go_wp2_with fail
  refine (HC.out _).mono ?_
  rintro e w2 ⟨rfl, hb2⟩
  have b2 := below_then b1 (Nat.le_refl _) hb2
  clear c0 c1 c2 cl hb2 b1
  go_wp2
  go_ret
  exact ⟨rfl, b2⟩
theorem iPeriodOf_no (S T X : Int) (w : World) (h : regB S T X = false) :
    Calls Try.prog 37 #[.agg #[.int .i64 S, .int .i64 T, .int .i64 X]] w fun e w' => e = .returned (.int .i64 (-1)) ∧ Below w.heap.size w w' := by
  go_enter Try.func37, Try.ntmps37
  go_wp2_with fail
  refine (oRegisterValid_no S T X _ h).mono ?_
  rintro e w1 ⟨rfl, hb1⟩
  have b1 := below_then ((Below.refl _ w).alloc (Nat.le_refl _) _) (by simp) hb1
  clear hb1
  go_wp2
  go_ret
  exact ⟨rfl, b1⟩
end Go.Proofs.Ytmlmpekhcnjehaa
namespace Go.Proofs.Ytmlmpekhcnjehaa
open Go.RowKit
/-- A row of numbers. -/
def RowAt (w : World) (b m : Nat) (f : Nat → Int) : Prop :=
  (∀ v : Nat, v < m → w.cell? ⟨b, v, none⟩ = some (.int .i64 (f v))) ∧ (∀ o, w.frozen? ⟨b, o, none⟩ = false) ∧ b < w.heap.size
theorem RowAt.new {w : World} {m : Nat} {t : TypeId} {b : Nat} (hb : b = w.heap.size) : RowAt (w.alloc (.cells (madeCells #[.int .i64 0] m) t)) b m (fun _ => 0) := by
  subst hb
  refine ⟨fun v hv => ?_, fun o => by simp, by simp⟩
  have : (madeCells #[.int .i64 0] m)[v]? = some (.int .i64 0) := by simp [madeCells, hv, Nat.mod_one]
  generalize madeCells #[.int .i64 0] m = A at this
  simp [this]
theorem RowAt.set {w : World} {b m : Nat} {f g : Nat → Int} (h : RowAt w b m f) (y : Nat) (u : Int) (hg : ∀ v, v < m → g v = if v = y then u else f v) :
    RowAt (w.setCell ⟨b, y, none⟩ (.int .i64 u)) b m g := by
  obtain ⟨h1, h2, h3⟩ := h
  refine ⟨fun v hv => ?_, fun o => by simp [World.frozen?_setCell, h2], by simp; omega⟩
  rw [hg v hv]
  by_cases hv' : v = y
  · subst hv'
    rw [if_pos rfl]
    exact World.cell?_setCell_same _ _ _ (h1 v hv)
  · rw [if_neg hv', ← h1 v hv]
    exact World.cell?_setCell_other _ _ _ _ (by intro e; injection e with _ e; exact hv' e.symm)
theorem RowAt.kept {w w' : World} {b m : Nat} {f : Nat → Int} {row : Option Nat} (h : RowAt w b m f) (hg : w.grownBy w' row) (hne : some b ≠ row) : RowAt w' b m f :=
  ⟨fun v hv => hg.cell (h.1 v hv) hne, fun o => frozen_kept' (h.2.1 o) h.2.2 hg hne, Nat.lt_of_lt_of_le h.2.2 hg.size⟩
theorem RowAt.below {w w' : World} {b m B : Nat} {f : Nat → Int} (h : RowAt w b m f) (hb : Below B w w') (hB : b < B) : RowAt w' b m f :=
  ⟨fun v hv => (hb.cell (p := ⟨b, v, none⟩) hB).trans (h.1 v hv), fun o => (hb.frozen (p := ⟨b, o, none⟩) hB).trans (h.2.1 o), Nat.lt_of_lt_of_le h.2.2 hb.size⟩
theorem grown_set (w : World) (b o : Nat) (u : Value) : w.grownBy (w.setCell ⟨b, o, none⟩ u) (some b) :=
  ⟨rfl, rfl, rfl, by simp, fun k hk hne => Below.heap_setCell _ _ _ _ (fun e => hne (by rw [e]))⟩
theorem walk_set3 {W : World} {b : Nat} {S T X : Int} (h : RegAt W b S T X) (S' T' X' : Int) :
    RegAt (((W.setCell ⟨b, 0, none⟩ (.int .i64 S')).setCell ⟨b, 1, none⟩ (.int .i64 T')).setCell ⟨b, 2, none⟩ (.int .i64 X')) b S' T' X' ∧
    (∀ a, (((W.setCell ⟨b, 0, none⟩ (.int .i64 S')).setCell ⟨b, 1, none⟩ (.int .i64 T')).setCell ⟨b, 2, none⟩ (.int .i64 X')).frozen? a = W.frozen? a) ∧
    W.grownBy (((W.setCell ⟨b, 0, none⟩ (.int .i64 S')).setCell ⟨b, 1, none⟩ (.int .i64 T')).setCell ⟨b, 2, none⟩ (.int .i64 X')) (some b) := by
  obtain ⟨c0, c1, c2, cl⟩ := h
  refine ⟨⟨?_, ?_, ?_, ?_⟩, ?_, ?_⟩
  · go_simp
  · go_simp
  · go_simp
  · simp; omega
  · intro a; simp [World.frozen?_setCell]
  · refine ⟨rfl, rfl, rfl, by simp, fun k hk hne => ?_⟩
    have hne' : k ≠ b := fun e => hne (by rw [e])
    rw [Below.heap_setCell _ _ _ _ hne', Below.heap_setCell _ _ _ _ hne', Below.heap_setCell _ _ _ _ hne']
set_option maxRecDepth 100000 in
theorem l1Walk_any (s t x : Nat) (w : World) (h : RegN s t x) (N : Nat) (hN : N ≤ 256) (h0 : idx s t x N (stepsN s t N x) ≠ 0) (hm : ∀ m, m < N → idx s t x m (stepsN s t m x) = 0) :
    Calls Try.prog 78 #[.agg #[.int .i64 s, .int .i64 t, .int .i64 x]] w fun e w' => e = .returned (.tuple #[.slice (some ⟨w.heap.size + 2, 0, none⟩) (tw s) (tw s), .int .i64 N, .agg #[.int .i64 s, .int .i64 t, .int .i64 (stepsN s t N x : Nat)]]) ∧
      RowAt w' (w.heap.size + 2) (tw s) (fun v => (idx s t x N v : Int) - 1) ∧ Below w.heap.size w w' := by
  have ht := tw_le s h.hi
  have hp := tw_pos s
  obtain ⟨m, hM⟩ : ∃ m, tw s = m := ⟨_, rfl⟩
  have h2 := fun w => l1Two_any s w h.hi
  rw [hM] at h2 ht hp
  have HM := Lib.hid hM
  rw [hM]
  clear hM
  have hmk := run_make_row' (P := Try.prog) 31 3 (.int .i64 0) 8 (by kernel_rfl) (by kernel_rfl) rfl .i64 .i64 m (by omega) (by omega)
  go_enter Try.func78, Try.ntmps78
  go_wp2_with (first | (go_at_call 58; refine (h2 _).mono ?_; rintro e w' ⟨rfl, rfl⟩))
  clear hmk h2
  go_loopw [6] (fun i wr => ∃ n : Nat, n ≤ m ∧ i = .int .i64 n ∧ RowAt wr (w.heap.size + 2) m (fun v => if v < n then -1 else 0) ∧ RegAt wr w.heap.size s t x ∧ (∀ o, wr.frozen? ⟨w.heap.size, o, none⟩ = false) ∧ RegAt wr (w.heap.size + 1) 0 0 0 ∧ (∀ o, wr.frozen? ⟨w.heap.size + 1, o, none⟩ = false) ∧ Below w.heap.size w wr) (fun i _ => m - (intOf i).toNat)
  case atStart =>
    obtain ⟨W, k1, k2, k3, k4, k5, k6, k7⟩ := two_new w 57 s t x
    rw [k7]
    have k8 : Below W.heap.size W (W.alloc (.cells (madeCells #[.int .i64 0] m) 3)) := (Below.refl _ _).alloc (Nat.le_refl _) _
    have k9 : RowAt (W.alloc (.cells (madeCells #[.int .i64 0] m) 3)) (w.heap.size + 2) m (fun _ => 0) := RowAt.new k6.symm
    refine ⟨0, by omega, rfl, ⟨fun v hv => by rw [k9.1 v hv]; simp, k9.2⟩, k2.below k8 k2.2.2.2, fun o => (k8.frozen (p := ⟨w.heap.size, o, none⟩) k2.2.2.2).trans (k4 o), k3.below k8 k3.2.2.2, fun o => (k8.frozen (p := ⟨w.heap.size + 1, o, none⟩) k3.2.2.2).trans (k5 o), k1.alloc (by omega) _⟩
  case round =>
    obtain ⟨n, hn, rfl, rV, rA, rf, rD, rg, rb⟩ := hrel
    by_cases hlt : n < m
    · have hv := rV.1 n hlt
      have hf := rV.2.1 n
      have hz1 : (0 : Int) ≤ (n : Int) := by omega
      have hz2 : (n : Int) < m := by omega
      go_wp2
      have kg := grown_set wr (w.heap.size + 2) n (.int .i64 (-1))
      go_roundw
      case rel =>
        exact ⟨n + 1, by omega, by go_num, rV.set n (-1) (fun v hv => by by_cases e : v = n <;> simp [e] <;> omega), rA.kept kg (by simp), fun o => frozen_kept' (rf o) rA.2.2.2 kg (by simp), rD.kept kg (by simp), fun o => frozen_kept' (rg o) rD.2.2.2 kg (by simp), rb.grown kg rb.size (fun k e => by cases e; omega)⟩
      case measure => simp [intOf]; omega
    · obtain rfl : n = m := by omega
      have rV' : RowAt wr (w.heap.size + 2) n (fun v => (idx s t x 0 v : Int) - 1) := ⟨fun v hv => by rw [rV.1 v hv]; simp [hv, idx], rV.2⟩
      clear rV hlt hn
      go_wp2_with fail
      go_loopw [7] (fun i wr => ∃ k : Nat, k ≤ N ∧ i = .int .i64 k ∧ RowAt wr (w.heap.size + 2) n (fun v => (idx s t x k v : Int) - 1) ∧ RegAt wr w.heap.size s t (stepsN s t k x : Nat) ∧ (∀ o, wr.frozen? ⟨w.heap.size, o, none⟩ = false) ∧ RegAt wr (w.heap.size + 1) 0 0 0 ∧ (∀ o, wr.frozen? ⟨w.heap.size + 1, o, none⟩ = false) ∧ Below w.heap.size w wr) (fun i _ => N - (intOf i).toNat)
      case atStart => exact ⟨0, by omega, rfl, rV', rA, rf, rD, rg, rb⟩
      case round =>
        clear rV' rA rf rD rg rb
        obtain ⟨k, hk, rfl, rV, rA, rf, rD, rg, rb⟩ := hrel
        obtain ⟨y, hy⟩ : ∃ y, stepsN s t k x = y := ⟨_, rfl⟩
        have hy1 := (h.steps k).lt
        rw [HM.out] at hy1
        have hL := fun w => l1Step_any s t (stepsN s t k x) w (h.steps k)
        rw [hy] at hy1 hL
        have rA' := rA
        rw [hy] at rA'
        obtain ⟨c0, c1, c2, cl⟩ := rA'
        have hz1 : (0 : Int) ≤ (y : Int) := by omega
        have hz2 : (y : Int) < n := by omega
        have hv : wr.cell? ⟨w.heap.size + 2, y, none⟩ = some (.int .i64 ((idx s t x k y : Int) - 1)) := rV.1 y hy1
        have hf := rV.2.1 y
        have HY := Lib.hid hy
        by_cases hq : idx s t x k y = 0
        · have hlt : k < N := by
            by_cases e : k = N
            · subst e; rw [hy] at h0; exact absurd hq h0
            · omega
          rw [hq, show (((0 : Nat) : Int) - 1) = -1 from rfl] at hv
          clear hy
          go_wp2_with fail
          have kV := rV.set (g := fun v => (idx s t x (k + 1) v : Int) - 1) y (k : Int) (fun v hv => by
            simp only [idx, HY.out]
            by_cases e : v = y
            · rw [if_pos e, if_pos e.symm]; omega
            · rw [if_neg e, if_neg (fun e' => e e'.symm)])
          have kg := grown_set wr (w.heap.size + 2) y (.int .i64 k)
          have kA := rA.kept kg (by simp)
          have kf := fun o => frozen_kept' (rf o) rA.2.2.2 kg (by simp)
          have kD := rD.kept kg (by simp)
          have kh := fun o => frozen_kept' (rg o) rD.2.2.2 kg (by simp)
          have kb := rb.grown kg rb.size (fun k e => by cases e; omega)
          rw [HY.out] at kA
          clear rV rA rf rD rg rb kg c0 c1 c2 cl hv hf
          refine (hL _).mono ?_
          rintro e w2 ⟨rfl, hb⟩
          have qV := kV.below hb kV.2.2
          have qA := kA.below hb kA.2.2.2
          have qf : ∀ o, w2.frozen? ⟨w.heap.size, o, none⟩ = false := fun o => (hb.frozen (p := ⟨w.heap.size, o, none⟩) kA.2.2.2).trans (kf o)
          have qD := kD.below hb kD.2.2.2
          have qg : ∀ o, w2.frozen? ⟨w.heap.size + 1, o, none⟩ = false := fun o => (hb.frozen (p := ⟨w.heap.size + 1, o, none⟩) kD.2.2.2).trans (kh o)
          have qb := below_then kb (Nat.le_refl _) hb
          clear kV kA kf kD kh kb hb hL
          obtain ⟨m0, m1, m2, ml⟩ := id qA
          have n0 := qf 0
          have n1 := qf 1
          have n2 := qf 2
          go_wp2
          obtain ⟨r1, r2, r3⟩ := walk_set3 qA s t (stepN s t y : Nat)
          go_roundw
          case rel => exact ⟨k + 1, by omega, by go_num, qV.kept r3 (by simp), by simp only [stepsN, HY.out]; exact r1, fun o => (r2 _).trans (qf o), qD.kept r3 (by simp), fun o => (r2 _).trans (qg o), qb.grown r3 qb.size (fun k e => by cases e; exact Nat.le_refl _)⟩
          case measure => simp [intOf]; omega
        · have hnN : k = N := by
            by_cases e : k = N
            · exact e
            · have := hm k (by omega); rw [hy] at this; exact absurd this hq
          subst hnN
          obtain ⟨q, hq'⟩ : ∃ q, idx s t x k y = q := ⟨_, rfl⟩
          rw [hq'] at hv hq
          have hq0 : ¬ ((q : Int) - 1 < 0) := by omega
          obtain ⟨d0, d1, d2, dl⟩ := id rD
          have g0 := rg 0
          have g1 := rg 1
          have g2 := rg 2
          clear hy hq' h0 hm hN hL
          go_wp2_with fail
          go_region
          go_wp2
          obtain ⟨r1, r2, r3⟩ := walk_set3 rD s t y
          refine bodyPost_ret (v := .tuple #[.slice (some ⟨w.heap.size + 2, 0, none⟩) n n, .int .i64 k, .agg #[.int .i64 s, .int .i64 t, .int .i64 y]]) (by simp [results, Try.results78, go_sem, d0, d1, d2]) rfl ⟨by rw [HY.out], ?_, ?_⟩
          · exact rV.kept (row := some (w.heap.size + 1)) (r3.trans ⟨rfl, rfl, rfl, Nat.le_refl _, fun _ _ _ => rfl⟩) (by simp)
          · exact rb.grown (row := some (w.heap.size + 1)) (r3.trans ⟨rfl, rfl, rfl, Nat.le_refl _, fun _ _ _ => rfl⟩) rb.size (fun k e => by cases e; omega)
theorem pRegisterValid_yes (s t x : Nat) (w : World) (h : RegN s t x) :
    Calls Try.prog 77 #[.agg #[.int .i64 s, .int .i64 t, .int .i64 x]] w fun e w' => e = .returned (.bool true) ∧ Below w.heap.size w w' := by
  rw [← h.valid]; exact sRegisterValid_any _ _ _ w
theorem pRegisterValid_no (S T X : Int) (w : World) (h : regB S T X = false) :
    Calls Try.prog 77 #[.agg #[.int .i64 S, .int .i64 T, .int .i64 X]] w fun e w' => e = .returned (.bool false) ∧ Below w.heap.size w w' := by
  rw [← h]; exact sRegisterValid_any _ _ _ w
set_option maxRecDepth 100000 in
theorem sPeriodOf_yes (s t x : Nat) (w : World) (h : RegN s t x) (N : Nat) (hN : N ≤ 256) (h0 : idx s t x N (stepsN s t N x) ≠ 0) (hm : ∀ m, m < N → idx s t x m (stepsN s t m x) = 0) :
    Calls Try.prog 65 #[.agg #[.int .i64 s, .int .i64 t, .int .i64 x]] w fun e w' => e = .returned (.int .i64 ((N : Int) + 1 - idx s t x N (stepsN s t N x))) ∧ Below w.heap.size w w' := by
  have HC := Lib.hid (fun w => l1Walk_any s t x w h N hN h0 hm)
  have hR := pRegisterValid_yes s t x
  have hy1 := (h.steps N).lt
  obtain ⟨m, hM⟩ : ∃ m, tw s = m := ⟨_, rfl⟩
  have hm2 := tw_le s h.hi
  have hq := idx_le s t x N (stepsN s t N x)
  obtain ⟨y, hy⟩ : ∃ y, stepsN s t N x = y := ⟨_, rfl⟩
  obtain ⟨q, hQ⟩ : ∃ q, idx s t x N y = q := ⟨_, rfl⟩
  have HQ := Lib.hid hQ
  rw [hy] at HC hy1 h0 hq ⊢
  rw [hQ] at h0 hq ⊢
  rw [hM] at HC hy1 hm2
  clear hy hQ hM hm
  go_enter Try.func65, Try.ntmps65
  go_wp2_with fail
  refine (hR _ h).mono ?_
  rintro e w1 ⟨rfl, hb1⟩
  have b1 := below_then ((Below.refl _ w).alloc (Nat.le_refl _) _) (by simp) hb1
  obtain ⟨c0, c1, c2, cl⟩ := (RegAt.new w 57 s t x).below hb1 (by simp)
  clear hb1
  go_wp2_with fail
  refine (HC.out _).mono ?_
  rintro e w2 ⟨rfl, hR2, hb2⟩
  have b2 := below_then b1 (Nat.le_refl _) hb2
  have hv : w2.cell? ⟨w1.heap.size + 2, y, none⟩ = some (.int .i64 ((idx s t x N y : Int) - 1)) := hR2.1 y hy1
  rw [HQ.out] at hv
  have hl := hR2.2.2
  have hz1 : (0 : Int) ≤ (y : Int) := by omega
  have hz2 : (y : Int) < (m : Int) := by omega
  clear c0 c1 c2 cl hb2 b1
  go_wp2
  go_ret
  exact ⟨ret_int (by omega), b2.alloc b2.size _⟩
set_option maxRecDepth 100000 in
theorem sPeriodOf_no (S T X : Int) (w : World) (h : regB S T X = false) :
    Calls Try.prog 65 #[.agg #[.int .i64 S, .int .i64 T, .int .i64 X]] w fun e w' => e = .returned (.int .i64 (-1)) ∧ Below w.heap.size w w' := by
  go_enter Try.func65, Try.ntmps65
  go_wp2_with fail
  refine (pRegisterValid_no S T X _ h).mono ?_
  rintro e w1 ⟨rfl, hb1⟩
  have b1 := below_then ((Below.refl _ w).alloc (Nat.le_refl _) _) (by simp) hb1
  clear hb1
  go_wp2
  go_ret
  exact ⟨rfl, b1⟩
end Go.Proofs.Ytmlmpekhcnjehaa
