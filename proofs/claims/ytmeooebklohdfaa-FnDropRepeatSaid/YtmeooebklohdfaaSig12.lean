/- Signals added: l4Add of the model, superposed of the program, AddSignals of both sides. superposed of the program, AddSignals of both sides. AddSignals of both sides. -/
import Derived.Test.YtmeooebklohdfaaSig6
import Derived.IntWalk
namespace Go.Proofs.Ytmeooebklohdfaa
open Go.RowKit
set_option linter.unusedVariables false
set_option maxRecDepth 100000
/-- A sample, 0 behind the end. -/
def smp (n : Nat) (f : Nat → Int) (j : Nat) : Int := if j < n then f j else 0
theorem smp_bd {n : Nat} {f : Nat → Int} (h : allM n f = true) (j : Nat) : -1000000 ≤ smp n f j ∧ smp n f j ≤ 1000000 := by
  unfold smp
  split
  · exact allM_at h (by assumption)
  · omega
/-- The sum of two signals. -/
def agF (n : Nat) (f : Nat → Int) (m : Nat) (g : Nat → Int) (j : Nat) : Int := smp n f j + smp m g j
theorem ag_splice {M n : Nat} (f : Nat → Int) (h : n ≤ M) : splice (List.replicate M (Value.int .i64 0)) 0 ((List.range n).map fun i => Value.int .i64 (f i)) = (List.range M).map fun j => Value.int .i64 (smp n f j) := by
  unfold splice
  apply List.ext_getElem (by simp; omega)
  intro j h1 h2
  simp at h2
  by_cases hj : j < n
  · simp [smp, hj]
  · simp only [List.take_zero, List.nil_append]
    rw [List.getElem_append_right (by simp; omega)]
    simp [smp, hj]
set_option maxHeartbeats 1600000 in
set_option maxRecDepth 100000 in
theorem l4Add_any (v u : Value) (n m : Nat) (f g : Nat → Int) (w : World) (hv : IntsR w v n f) (hu : IntsR w u m g) (hn : n ≤ 100000) (hm : m ≤ 100000)
    (hb1 : ∀ j, -10000000000 ≤ smp n f j ∧ smp n f j ≤ 10000000000) (hb2 : ∀ j, -10000000000 ≤ smp m g j ∧ smp m g j ≤ 10000000000) :
    Calls Try.prog 103 #[v, u] w fun e w' => ∃ x, e = .returned x ∧ OF w' w.heap.size x (max n m) (agF n f m g) ∧ Below w.heap.size w w' := by
  obtain ⟨a, cap, rfl, hc⟩ := hv
  obtain ⟨b, capb, rfl, hd⟩ := hu
  have HC := Lib.hid hc
  have HD := Lib.hid hd
  have HB1 := Lib.hid hb1
  have HB2 := Lib.hid hb2
  have hsp := fun M (h : n ≤ M) => ag_splice (M := M) f h
  obtain ⟨M, hM, hM1, hM2, hM3⟩ : ∃ M, max n m = M ∧ n ≤ M ∧ m ≤ M ∧ ((¬ ((n : Int) < (m : Int)) ∧ M = n) ∨ ((n : Int) < (m : Int) ∧ M = m)) := ⟨_, rfl, by omega, by omega, by omega⟩
  rw [hM]
  have hs2 := hsp M hM1
  obtain ⟨X, hX⟩ : ∃ X, ((List.range n).map fun i => Value.int .i64 (f i)) = X := ⟨_, rfl⟩
  rw [hX] at hs2
  have HSP := Lib.hid hs2
  have HG := Lib.hid (made_row w M)
  have hmk := make_ints M (by omega)
  have b0 := (Below.refl w.heap.size w).alloc (Nat.le_refl _) (.cells (madeCells #[.int .i64 0] M) 3)
  have HL : Hid (X.length = n) := Lib.hid (by rw [← hX]; simp)
  have HX1 : Hid (∀ u ∈ X, u.oneCell' = true) := Lib.hid (fun u hu => by
    rw [← hX] at hu
    simp at hu
    obtain ⟨j, _, rfl⟩ := hu
    rfl)
  have HPOS : Hid (0 < X.length → ∃ ad, a = some ad ∧ ∀ j u, X[j]? = some u → (w.alloc (.cells (madeCells #[.int .i64 0] M) 3)).cell? (ad.add j) = some u) := Lib.hid (fun hp => by
    rw [HL.out] at hp
    obtain ⟨x, e0, h1, h2⟩ := HC.out 0 hp
    refine ⟨x, e0, fun j u hu => ?_⟩
    rw [← hX] at hu
    rw [List.getElem?_map] at hu
    have hj : j < n := by
      by_cases hj : j < n
      · exact hj
      · rw [List.getElem?_eq_none (by simp; omega)] at hu
        simp at hu
    rw [List.getElem?_range hj] at hu
    simp at hu
    subst hu
    obtain ⟨x', e, h3, h4⟩ := HC.out j hj
    rw [e0] at e
    injection e with e
    subst e
    exact (b0.cell (p := x.add j) (by rw [add_block]; exact h1)).trans h4)
  have HMIN : Hid (X.length = Nat.min n M) := Lib.hid (by rw [HL.out]; exact (Nat.min_eq_left hM1).symm)
  have HFIT : Hid (0 + X.length ≤ (List.replicate M (Value.int .i64 0)).length) := Lib.hid (by rw [HL.out, List.length_replicate]; omega)
  have BB := Lib.hid b0
  have HMB : Hid (M ≤ 100000) := Lib.hid (by omega)
  have HM2 := Lib.hid hM2
  clear hc hd hb1 hb2 hsp hs2 hX b0 HL hM
  clear HM2
  have HM2 := Lib.hid hM2
  rcases hM3 with ⟨l1, e⟩ | ⟨l1, e⟩
  · have e' := e.symm
    clear e
    subst e'
    clear hM1 hM2
    have O2 : Hid (∀ w2, Hid (w2.heap[w.heap.size]? = some (.cells (splice (List.replicate n (Value.int .i64 0)) 0 X).toArray 3 (0, 0))) → OF w2 w.heap.size (.slice (some ⟨w.heap.size, 0, none⟩) n n) n (smp n f)) := Lib.hid (fun w2 h => OF.of_row (f := smp n f) h.out (Nat.le_refl w.heap.size) HSP.out (by have := HMB.out; omega))
    go_enter Try.func103, Try.ntmps103
    go_wp2_with ((with_reducible show wpList _ _ _ (⟨some 15, _, _, _, _, _⟩ :: _) _ _); refine wpList_copy_splice rfl (.tmp 13) (.tmp 14) 27 27 rfl 3 (by kernel_rfl) int_size (some ⟨w.heap.size, 0, none⟩) a n n n cap rfl rfl w.heap.size 0 (List.replicate n (.int .i64 0)) 3 HG.out X HMIN.out (fun hp => ⟨rfl, HPOS.out hp⟩) HFIT.out HX1.out w.heap.size w BB.out (Nat.le_refl _) ?_; intro w2 HG2 hB2)
    have O3 := Lib.hid ((O2.out w2 HG2).congr (g := fun j => smp n f j + (if j < 0 then smp m g j else 0)) (fun j _ => by simp))
    have BB2 := Lib.hid hB2
    clear hB2 HG2 O2 hmk
    go_loopw [6] (fun t wr => ∃ i : Nat, i ≤ m ∧ t = .int .i64 i ∧ OF wr w.heap.size (.slice (some ⟨w.heap.size, 0, none⟩) n n) n (fun j => smp n f j + (if j < i then smp m g j else 0)) ∧ Below w.heap.size w wr) (fun t _ => m - (intOf t).toNat)
    case atStart => exact ⟨0, by omega, rfl, O3.out, BB2.out⟩
    case round =>
      obtain ⟨i, hi, rfl, rO, rb⟩ := hrel
      have hiM : i ≤ n := Nat.le_trans hi HM2.out
      by_cases hlt : i < m
      · obtain ⟨x, rfl, hx, hcc⟩ := HD.out i hlt
        have c0 := (rb.cell (p := x.add i) (by rw [add_block]; exact hx)).trans hcc
        have hiM2 : i < n := Nat.lt_of_lt_of_le hlt HM2.out
        obtain ⟨s1, s2⟩ := rO.at i hiM2
        rw [if_neg (Nat.lt_irrefl i), Int.add_zero] at s1
        obtain ⟨e1, e2⟩ := HB1.out i
        obtain ⟨e3, e4⟩ := HB2.out i
        have hg : smp m g i = g i := by unfold smp; rw [if_pos hlt]
        rw [hg] at e3 e4
        obtain ⟨S, hS⟩ : ∃ S, smp n f i = S := ⟨_, rfl⟩
        rw [hS] at s1 e1 e2
        obtain ⟨y, hy⟩ : ∃ y, g i = y := ⟨_, rfl⟩
        rw [hy] at c0 e3 e4 hg
        obtain ⟨T, hT⟩ : ∃ T, S + y = T := ⟨_, rfl⟩
        have u2 : IntKind.i64.wrap (S + y) = T := by rw [hT]; exact IntWalk.i64_in _ (by omega)
        have i0 : (0 : Int) ≤ (i : Int) := by omega
        have i1 : (i : Int) < (m : Int) := by omega
        have i2 : (i : Int) < (n : Int) := by omega
        have nO : Hid (OF (wr.setCell ⟨w.heap.size, i, none⟩ (.int .i64 T)).drew w.heap.size (.slice (some ⟨w.heap.size, 0, none⟩) n n) n (fun j => smp n f j + (if j < i + 1 then smp m g j else 0))) :=
          Lib.hid (OF.below (rO.set i T hiM2 (fun j hj => by
            by_cases e : j = i
            · subst e; rw [if_pos (by omega), if_pos rfl, hg, hS]; exact hT
            · rw [if_neg e]
              by_cases e' : j < i
              · rw [if_pos (by omega), if_pos e']
              · rw [if_neg (by omega), if_neg e'])) (below_drew (Below.refl _ _)))
        have nb : Hid (Below w.heap.size w (wr.setCell ⟨w.heap.size, i, none⟩ (.int .i64 T)).drew) := Lib.hid (below_drew (bytes_below rb (Nat.le_refl _) _ _))
        clear rO rb hS hy hT e1 e2 e3 e4 hg hx hcc
        go_wp2_with fail
        go_still_tail 12, (by kernel_rfl)
        clear u2
        go_wp2
        go_roundw
        case rel => exact ⟨i + 1, by omega, by go_num, nO.out, nb.out⟩
        case measure => simp [intOf]; omega
      · obtain rfl : i = m := by omega
        have nO := Lib.hid (rO.congr (g := agF n f i g) (fun j hj => by
          unfold agF
          by_cases e : j < i
          · rw [if_pos e]
          · rw [if_neg e]; unfold smp; rw [if_neg e]))
        clear rO
        go_wp2
        go_ret
        exact ⟨_, rfl, nO.out, rb⟩
  · have e' := e.symm
    clear e
    subst e'
    clear hM1 hM2
    have O2 : Hid (∀ w2, Hid (w2.heap[w.heap.size]? = some (.cells (splice (List.replicate m (Value.int .i64 0)) 0 X).toArray 3 (0, 0))) → OF w2 w.heap.size (.slice (some ⟨w.heap.size, 0, none⟩) m m) m (smp n f)) := Lib.hid (fun w2 h => OF.of_row (f := smp n f) h.out (Nat.le_refl w.heap.size) HSP.out (by have := HMB.out; omega))
    go_enter Try.func103, Try.ntmps103
    go_wp2_with ((with_reducible show wpList _ _ _ (⟨some 15, _, _, _, _, _⟩ :: _) _ _); refine wpList_copy_splice rfl (.tmp 13) (.tmp 14) 27 27 rfl 3 (by kernel_rfl) int_size (some ⟨w.heap.size, 0, none⟩) a m m n cap rfl rfl w.heap.size 0 (List.replicate m (.int .i64 0)) 3 HG.out X HMIN.out (fun hp => ⟨rfl, HPOS.out hp⟩) HFIT.out HX1.out w.heap.size w BB.out (Nat.le_refl _) ?_; intro w2 HG2 hB2)
    have O3 := Lib.hid ((O2.out w2 HG2).congr (g := fun j => smp n f j + (if j < 0 then smp m g j else 0)) (fun j _ => by simp))
    have BB2 := Lib.hid hB2
    clear hB2 HG2 O2 hmk
    go_loopw [6] (fun t wr => ∃ i : Nat, i ≤ m ∧ t = .int .i64 i ∧ OF wr w.heap.size (.slice (some ⟨w.heap.size, 0, none⟩) m m) m (fun j => smp n f j + (if j < i then smp m g j else 0)) ∧ Below w.heap.size w wr) (fun t _ => m - (intOf t).toNat)
    case atStart => exact ⟨0, by omega, rfl, O3.out, BB2.out⟩
    case round =>
      obtain ⟨i, hi, rfl, rO, rb⟩ := hrel
      have hiM : i ≤ m := Nat.le_trans hi HM2.out
      by_cases hlt : i < m
      · obtain ⟨x, rfl, hx, hcc⟩ := HD.out i hlt
        have c0 := (rb.cell (p := x.add i) (by rw [add_block]; exact hx)).trans hcc
        have hiM2 : i < m := Nat.lt_of_lt_of_le hlt HM2.out
        obtain ⟨s1, s2⟩ := rO.at i hiM2
        rw [if_neg (Nat.lt_irrefl i), Int.add_zero] at s1
        obtain ⟨e1, e2⟩ := HB1.out i
        obtain ⟨e3, e4⟩ := HB2.out i
        have hg : smp m g i = g i := by unfold smp; rw [if_pos hlt]
        rw [hg] at e3 e4
        obtain ⟨S, hS⟩ : ∃ S, smp n f i = S := ⟨_, rfl⟩
        rw [hS] at s1 e1 e2
        obtain ⟨y, hy⟩ : ∃ y, g i = y := ⟨_, rfl⟩
        rw [hy] at c0 e3 e4 hg
        obtain ⟨T, hT⟩ : ∃ T, S + y = T := ⟨_, rfl⟩
        have u2 : IntKind.i64.wrap (S + y) = T := by rw [hT]; exact IntWalk.i64_in _ (by omega)
        have i0 : (0 : Int) ≤ (i : Int) := by omega
        have i1 : (i : Int) < (m : Int) := by omega
        have i2 : (i : Int) < (m : Int) := by omega
        have nO : Hid (OF (wr.setCell ⟨w.heap.size, i, none⟩ (.int .i64 T)).drew w.heap.size (.slice (some ⟨w.heap.size, 0, none⟩) m m) m (fun j => smp n f j + (if j < i + 1 then smp m g j else 0))) :=
          Lib.hid (OF.below (rO.set i T hiM2 (fun j hj => by
            by_cases e : j = i
            · subst e; rw [if_pos (by omega), if_pos rfl, hg, hS]; exact hT
            · rw [if_neg e]
              by_cases e' : j < i
              · rw [if_pos (by omega), if_pos e']
              · rw [if_neg (by omega), if_neg e'])) (below_drew (Below.refl _ _)))
        have nb : Hid (Below w.heap.size w (wr.setCell ⟨w.heap.size, i, none⟩ (.int .i64 T)).drew) := Lib.hid (below_drew (bytes_below rb (Nat.le_refl _) _ _))
        clear rO rb hS hy hT e1 e2 e3 e4 hg hx hcc
        go_wp2_with fail
        go_still_tail 12, (by kernel_rfl)
        clear u2
        go_wp2
        go_roundw
        case rel => exact ⟨i + 1, by omega, by go_num, nO.out, nb.out⟩
        case measure => simp [intOf]; omega
      · obtain rfl : i = m := by omega
        have nO := Lib.hid (rO.congr (g := agF n f i g) (fun j hj => by
          unfold agF
          by_cases e : j < i
          · rw [if_pos e]
          · rw [if_neg e]; unfold smp; rw [if_neg e]))
        clear rO
        go_wp2
        go_ret
        exact ⟨_, rfl, nO.out, rb⟩
end Go.Proofs.Ytmeooebklohdfaa
namespace Go.Proofs.Ytmeooebklohdfaa
open Go.RowKit
set_option linter.unusedVariables false
set_option maxRecDepth 100000
/-- A slice of N signals that can be read: signal i has ns i samples, fs i. -/
def SigsR (w : World) (v : Value) (N : Nat) (ns : Nat → Nat) (fs : Nat → Nat → Int) : Prop :=
  ∃ a cap, v = .slice a N cap ∧ ∀ i, i < N → ∃ (x : Addr) (u : Value), a = some x ∧ x.block < w.heap.size ∧ w.cell? (x.add i) = some u ∧ IntsR w u (ns i) (fs i)
theorem SigsR.below {w w' : World} {v : Value} {N : Nat} {ns : Nat → Nat} {fs : Nat → Nat → Int} (h : SigsR w v N ns fs) (hb : Below w.heap.size w w') : SigsR w' v N ns fs := by
  obtain ⟨a, cap, rfl, hc⟩ := h
  refine ⟨a, cap, rfl, fun i hi => ?_⟩
  obtain ⟨x, u, rfl, h1, h2, h3⟩ := hc i hi
  exact ⟨x, u, rfl, Nat.lt_of_lt_of_le h1 hb.size, (hb.cell (p := x.add i) (by rw [add_block]; exact h1)).trans h2, h3.below hb⟩
/-- The length of the longest signal, and the sum of all of them. -/
def mxN (ns : Nat → Nat) : Nat → Nat
  | 0 => 0
  | k + 1 => max (mxN ns k) (ns k)
theorem mxN_ge (ns : Nat → Nat) : ∀ N i, i < N → ns i ≤ mxN ns N
  | N + 1, i, h => by
    simp only [mxN]
    by_cases e : i = N
    · subst e; omega
    · have := mxN_ge ns N i (by omega); omega
theorem mxN_le {ns : Nat → Nat} {M : Nat} : ∀ N, (∀ i, i < N → ns i ≤ M) → mxN ns N ≤ M
  | 0, _ => Nat.zero_le _
  | N + 1, h => by
    have h1 := mxN_le (M := M) N (fun i hi => h i (by omega))
    have h2 := h N (by omega)
    simp only [mxN]; omega
def smF (ns : Nat → Nat) (fs : Nat → Nat → Int) (N : Nat) (j : Nat) : Int := sumI (fun i => smp (ns i) (fs i) j) N
theorem smF_succ (ns : Nat → Nat) (fs : Nat → Nat → Int) (N j : Nat) : smF ns fs (N + 1) j = smF ns fs N j + smp (ns N) (fs N) j := rfl
theorem smF_bd {ns : Nat → Nat} {fs : Nat → Nat → Int} (j : Nat) : ∀ N : Nat, (∀ i, i < N → allM (ns i) (fs i) = true) → -(1000000 * (N : Int)) ≤ smF ns fs N j ∧ smF ns fs N j ≤ 1000000 * (N : Int)
  | 0, _ => by simp [smF, sumI]
  | N + 1, h => by
    have ih := smF_bd (ns := ns) (fs := fs) j N (fun i hi => h i (by omega))
    have := smp_bd (h N (by omega)) j
    rw [smF_succ]; omega
set_option maxHeartbeats 1600000 in
set_option maxRecDepth 100000 in
theorem superp_any (v : Value) (N : Nat) (ns : Nat → Nat) (fs : Nat → Nat → Int) (w : World) (h : SigsR w v N ns fs) (hN : N ≤ 8) (hs : ∀ i, i < N → sigB (ns i) (fs i) = true) :
    Calls Try.prog 78 #[v] w fun e w' => ∃ u, e = .returned (.tuple #[u, .bool (sigB (mxN ns N) (smF ns fs N))]) ∧ OF w' w.heap.size u (resN (mxN ns N) (smF ns fs N)) (smF ns fs N) ∧ Below w.heap.size w w' := by
  obtain ⟨a, cap, rfl, hc⟩ := h
  have HC := Lib.hid hc
  have HN3 := Lib.hid (fun i hi => ((sigB_iff _ _).1 (hs i hi)).2)
  have HZ := Lib.hid (fun i hi k (hk : k < ns i) => allM_at ((sigB_iff _ _).1 (hs i hi)).1 hk)
  have HBD := Lib.hid (fun i (hi : i ≤ N) j => smF_bd (ns := ns) (fs := fs) j i (fun i' hi' => ((sigB_iff _ _).1 (hs i' (by omega))).1))
  have HLE := Lib.hid (fun k (hk : k ≤ N) => mxN_le (ns := ns) (M := 3000) k (fun i hi => ((sigB_iff _ _).1 (hs i (by omega))).2))
  have HGE := Lib.hid (fun i hi => mxN_ge ns N i hi)
  have hM := mxN_le (ns := ns) (M := 3000) N (fun i hi => ((sigB_iff _ _).1 (hs i hi)).2)
  have HI := Lib.hid (fun B u w h => iIf_any u B (mxN ns N) (smF ns fs N) w h (by omega))
  obtain ⟨M, hMM⟩ : ∃ M, mxN ns N = M := ⟨_, rfl⟩
  rw [hMM] at hM HI HGE ⊢
  have HMM := Lib.hid hMM
  clear hc hs hMM
  go_enter Try.func78, Try.ntmps78
  go_wp2
  go_loop [4, 14] (fun s t => ∃ k : Nat, k ≤ N ∧ t = .int .i64 k ∧ s = .int .i64 (mxN ns k : Nat)) (fun _ t => N - (intOf t).toNat)
  case atStart => exact ⟨0, by omega, rfl, rfl⟩
  case round =>
    obtain ⟨k, hk, rfl, rfl⟩ := hrel
    by_cases hlt : k < N
    · obtain ⟨x, u, rfl, hx, hcc, hR⟩ := HC.out k hlt
      obtain ⟨ai, ci, rfl, -⟩ := hR
      have hsu : mxN ns (k + 1) = max (mxN ns k) (ns k) := rfl
      have hle := HLE.out k hk
      have hn3 := HN3.out k hlt
      obtain ⟨S, hS⟩ : ∃ S, mxN ns k = S := ⟨_, rfl⟩
      rw [hS] at hsu hle ⊢
      obtain ⟨n, hn⟩ : ∃ n, ns k = n := ⟨_, rfl⟩
      rw [hn] at hsu hcc hn3
      have i0 : (0 : Int) ≤ (k : Int) := by omega
      have i1 : (k : Int) < (N : Int) := by omega
      have HSU := Lib.hid hsu
      clear hS hn hx hsu
      by_cases hmx : S < n
      · have e2 : max S n = n := by omega
        have l1 : (S : Int) < (n : Int) := by omega
        have HR : Hid (mxN ns (k + 1) = n) := Lib.hid (HSU.out.trans e2)
        clear e2
        go_wp2
        go_round
        case rel => exact ⟨k + 1, by omega, by go_num, by rw [HR.out]⟩
        case measure => simp [intOf]; omega
      · have e2 : max S n = S := by omega
        have l1 : ¬ ((S : Int) < (n : Int)) := by omega
        have HR : Hid (mxN ns (k + 1) = S) := Lib.hid (HSU.out.trans e2)
        clear e2
        go_wp2
        go_round
        case rel => exact ⟨k + 1, by omega, by go_num, by rw [HR.out]⟩
        case measure => simp [intOf]; omega
    · obtain rfl : k = N := by omega
      rw [HMM.out]
      have hmk := make_ints M (by omega)
      have O0 := Lib.hid ((OF.made w M (by omega)).congr (g := fun j => smF ns fs 0 j) (fun j _ => rfl))
      have B0 := Lib.hid ((Below.refl w.heap.size w).alloc (Nat.le_refl _) (.cells (madeCells #[.int .i64 0] M) 3))
      clear HLE
      go_wp2
      go_loopw [27] (fun t wr => ∃ i : Nat, i ≤ k ∧ t = .int .i64 i ∧ OF wr w.heap.size (.slice (some ⟨w.heap.size, 0, none⟩) M M) M (fun j => smF ns fs i j) ∧ Below w.heap.size w wr) (fun t _ => k - (intOf t).toNat)
      case atStart => exact ⟨0, by omega, rfl, O0.out, B0.out⟩
      case round =>
        obtain ⟨i, hi, rfl, rO, rb⟩ := hrel
        clear hmk
        by_cases hlt : i < k
        · obtain ⟨x, u, rfl, hx, hcc, hR⟩ := HC.out i hlt
          obtain ⟨ai, ci, rfl, hcells⟩ := hR
          have c0 := (rb.cell (p := x.add i) (by rw [add_block]; exact hx)).trans hcc
          have hn3 := HN3.out i hlt
          have hge := HGE.out i hlt
          have hz := fun j hj => HZ.out i hlt j hj
          have hbd := fun j => HBD.out i hi j
          have hsu := fun j => smF_succ ns fs i j
          obtain ⟨n, hn⟩ : ∃ n, ns i = n := ⟨_, rfl⟩
          rw [hn] at hcells c0 hn3 hge hz hsu
          obtain ⟨f, hf⟩ : ∃ f, fs i = f := ⟨_, rfl⟩
          rw [hf] at hcells hz hsu
          have HCE := Lib.hid hcells
          have HZI := Lib.hid hz
          have HBI := Lib.hid hbd
          have HSU := Lib.hid hsu
          have O3 := Lib.hid (rO.congr (g := fun j => smF ns fs i j + (if j < 0 then f j else 0)) (fun j _ => by simp))
          have RB := Lib.hid rb
          have HXB := Lib.hid hx
          have i0 : (0 : Int) ≤ (i : Int) := by omega
          have i1 : (i : Int) < (k : Int) := by omega
          clear hcells hz hbd hsu hn hf rO rb hx hcc
          go_wp2
          go_loopw [33] (fun t wr2 => ∃ q : Nat, q ≤ n ∧ t = .int .i64 q ∧ OF wr2 w.heap.size (.slice (some ⟨w.heap.size, 0, none⟩) M M) M (fun j => smF ns fs i j + (if j < q then f j else 0)) ∧ Below w.heap.size w wr2) (fun t _ => n - (intOf t).toNat)
          case atStart => exact ⟨0, by omega, rfl, O3.out, RB.out⟩
          case round =>
            obtain ⟨q, hq, rfl, qO, qb⟩ := hrel
            by_cases hqn : q < n
            · obtain ⟨y0, rfl, hy1, hy2⟩ := HCE.out q hqn
              have c1 := (qb.cell (p := y0.add q) (by rw [add_block]; exact hy1)).trans hy2
              have hqM : q < M := by omega
              obtain ⟨s1, s2⟩ := qO.at q hqM
              rw [if_neg (Nat.lt_irrefl q), Int.add_zero] at s1
              obtain ⟨e1, e2⟩ := HBI.out q
              obtain ⟨t1, t2⟩ := HZI.out q hqn
              obtain ⟨S, hS⟩ : ∃ S, smF ns fs i q = S := ⟨_, rfl⟩
              rw [hS] at s1 e1 e2
              obtain ⟨y, hy⟩ : ∃ y, f q = y := ⟨_, rfl⟩
              rw [hy] at c1 t1 t2
              have j0 : (0 : Int) ≤ (q : Int) := by omega
              have j1 : (q : Int) < (n : Int) := by omega
              have j2 : (q : Int) < (M : Int) := by omega
              have f1 : -8000000 ≤ S := by omega
              have f2 : S ≤ 8000000 := by omega
              have nO : Hid (OF (wr.setCell ⟨w.heap.size, q, none⟩ (.int .i64 (S + y))) w.heap.size (.slice (some ⟨w.heap.size, 0, none⟩) M M) M (fun j => smF ns fs i j + (if j < q + 1 then f j else 0))) :=
                Lib.hid (qO.set q (S + y) hqM (fun j hj => by
                  by_cases e : j = q
                  · subst e; rw [if_pos (by omega), if_pos rfl, hy, hS]
                  · rw [if_neg e]
                    by_cases e' : j < q
                    · rw [if_pos (by omega), if_pos e']
                    · rw [if_neg (by omega), if_neg e']))
              have nb : Hid (Below w.heap.size w (wr.setCell ⟨w.heap.size, q, none⟩ (.int .i64 (S + y)))) := Lib.hid (bytes_below qb (Nat.le_refl _) _ _)
              clear qO qb hS hy e1 e2 hy1 hy2
              go_wp2
              go_roundw
              case rel => exact ⟨q + 1, by omega, by go_num, nO.out, nb.out⟩
              case measure => simp [intOf]; omega
            · obtain rfl : q = n := by omega
              have nO := Lib.hid (qO.congr (g := fun j => smF ns fs (i + 1) j) (fun j hj => by rw [HSU.out j]; rfl))
              clear qO
              go_wp2
              go_roundw
              case rel => exact ⟨i + 1, by omega, by go_num, nO.out, qb⟩
              case measure => simp [intOf]; omega
        · obtain rfl : i = k := by omega
          have hI := HI.out w.heap.size (.slice (some ⟨w.heap.size, 0, none⟩) M M) wr rO
          have HII := Lib.hid hI
          clear hI rO
          go_wp2_with fail
          refine (HII.out).mono ?_
          rintro e w3 ⟨u, rfl, O3, b3⟩
          have c3 := below_then rb (Nat.le_refl _) b3
          go_wp2
          go_ret2
          exact ⟨_, rfl, O3, c3⟩
end Go.Proofs.Ytmeooebklohdfaa
namespace Go.Proofs.Ytmeooebklohdfaa
open Go.RowKit
set_option linter.unusedVariables false
set_option maxRecDepth 100000
def adOK (n : Nat) (f : Nat → Int) (m : Nat) (g : Nat → Int) : Bool := sigB n f && (sigB m g && sigB (max n m) (agF n f m g))
def adN (n : Nat) (f : Nat → Int) (m : Nat) (g : Nat → Int) : Nat := if adOK n f m g then max n m else 0
theorem adN_le6 (n : Nat) (f : Nat → Int) (m : Nat) (g : Nat → Int) : adN n f m g ≤ 1000000 := by
  unfold adN adOK
  split
  · rename_i h
    simp only [Bool.and_eq_true] at h
    have := ((sigB_iff _ _).1 h.2.2).2
    omega
  · omega
theorem ad_in {n : Nat} {f : Nat → Int} {m : Nat} {g : Nat → Int} (h1 : sigB n f = true) (h2 : sigB m g = true) : adN n f m g = resN (max n m) (agF n f m g) ∧ adOK n f m g = sigB (max n m) (agF n f m g) := by
  unfold adN adOK resN; rw [h1, h2]; simp
theorem ad_out {n : Nat} {f : Nat → Int} {m : Nat} {g : Nat → Int} (h : ¬ (sigB n f = true ∧ sigB m g = true)) : adN n f m g = 0 ∧ adOK n f m g = false := by
  have : adOK n f m g = false := by
    unfold adOK
    cases h1 : sigB n f with
    | false => rfl
    | true =>
      cases h2 : sigB m g with
      | false => rfl
      | true => exact absurd ⟨h1, h2⟩ h
  exact ⟨by unfold adN; rw [this]; rfl, this⟩
def two (α : Type) (x y : α) (i : Nat) : α := if i = 0 then x else y
theorem mx_two (n m : Nat) : mxN (two Nat n m) 2 = max n m := by simp [mxN, two]
theorem sm_two (n : Nat) (f : Nat → Int) (m : Nat) (g : Nat → Int) : smF (two Nat n m) (two (Nat → Int) f g) 2 = agF n f m g := by
  funext j
  simp [smF, sumI, two, agF]
set_option maxHeartbeats 800000 in
set_option maxRecDepth 100000 in
theorem iAddSig_yes (v u : Value) (n m : Nat) (f g : Nat → Int) (w : World) (hv : IntsR w v n f) (hu : IntsR w u m g) (h1 : sigB n f = true) (h2 : sigB m g = true) :
    Calls Try.prog 24 #[v, u] w fun e w' => ∃ x, e = .returned (.tuple #[x, .bool (sigB (max n m) (agF n f m g))]) ∧ OF w' w.heap.size x (resN (max n m) (agF n f m g)) (agF n f m g) ∧ Below w.heap.size w w' := by
  have n3 := ((sigB_iff _ _).1 h1).2
  have m3 := ((sigB_iff _ _).1 h2).2
  have hb1 := fun w h => iSig_any v n f w h (by omega)
  have hb2 := fun w h => iSig_any u m g w h (by omega)
  rw [h1] at hb1
  rw [h2] at hb2
  have HB1 := Lib.hid hb1
  have HB2 := Lib.hid hb2
  have HV := Lib.hid hv
  have HU := Lib.hid hu
  have hsp := fun x w h => superp_any x 2 (two Nat n m) (two (Nat → Int) f g) w h (by omega) (fun i hi => by
    have : i = 0 ∨ i = 1 := by omega
    rcases this with rfl | rfl
    · exact h1
    · exact h2)
  rw [mx_two, sm_two] at hsp
  have HSP := Lib.hid hsp
  obtain ⟨a, cap, rfl, -⟩ := hv
  obtain ⟨b, capb, rfl, -⟩ := hu
  have b0 := (Below.refl w.heap.size w).alloc (Nat.le_refl _) (.cells #[.slice a n cap, .slice b m capb] 27)
  have HS : Hid (SigsR (w.alloc (.cells #[.slice a n cap, .slice b m capb] 27)) (.slice (some ⟨w.heap.size, 0, none⟩) 2 2) 2 (two Nat n m) (two (Nat → Int) f g)) := Lib.hid (by
    refine ⟨_, _, rfl, fun i hi => ?_⟩
    have e : (⟨w.heap.size, 0, none⟩ : Addr).add i = ⟨w.heap.size, i, none⟩ := by unfold Addr.add; split <;> simp_all
    have : i = 0 ∨ i = 1 := by omega
    rcases this with rfl | rfl
    · exact ⟨_, _, rfl, by simp, by rw [e]; simp, HV.out.below b0⟩
    · exact ⟨_, _, rfl, by simp, by rw [e]; simp, HU.out.below b0⟩)
  have BB := Lib.hid b0
  clear hb1 hb2 hsp b0 h1 h2
  go_enter Try.func24, Try.ntmps24
  go_wp2_with fail
  refine (HB1.out _ HV.out).mono ?_
  rintro e w' ⟨rfl, rfl⟩
  go_wp2_with fail
  refine (HB2.out _ HU.out).mono ?_
  rintro e w' ⟨rfl, rfl⟩
  go_wp2_with fail
  refine (HSP.out _ _ HS.out).mono ?_
  rintro e w3 ⟨x, rfl, O3, b3⟩
  have c3 := below_then BB.out (Nat.le_refl _) b3
  have O4 := Lib.hid (O3.mono BB.out.size)
  clear O3 b3
  go_wp2
  go_ret2
  exact ⟨_, rfl, O4.out, c3⟩
set_option maxHeartbeats 800000 in
set_option maxRecDepth 100000 in
theorem iAddSig_any (v : Value) (n : Nat) (f : Nat → Int) (u : Value) (m : Nat) (g : Nat → Int) (w : World) (hv : IntsR w v n f) (hn : n ≤ 1048576) (hu : IntsR w u m g) (hm : m ≤ 1048576) :
    Calls Try.prog 24 #[v, u] w fun e w' => ∃ x, e = .returned (.tuple #[x, .bool (adOK n f m g)]) ∧ OF w' w.heap.size x (adN n f m g) (agF n f m g) ∧ Below w.heap.size w w' := by
  have hb1 := fun w h => iSig_any v n f w h hn
  have hb2 := fun w h => iSig_any u m g w h hm
  have HV := Lib.hid hv
  have HU := Lib.hid hu
  cases h1 : sigB n f with
  | true =>
    rw [h1] at hb1
    cases h2 : sigB m g with
    | true =>
      rw [h2] at hb2
      rw [(ad_in h1 h2).1, (ad_in h1 h2).2]
      exact iAddSig_yes v u n m f g w hv hu h1 h2
    | false =>
      obtain ⟨e1, e2⟩ := ad_out (n := n) (f := f) (m := m) (g := g) (by rw [h2]; simp)
      rw [e1, e2]
      rw [h2] at hb2
      have HB1 := Lib.hid hb1
      have HB2 := Lib.hid hb2
      clear hb1 hb2 h1 h2 hv hu e1 e2
      go_enter Try.func24, Try.ntmps24
      go_wp2_with fail
      refine (HB1.out _ HV.out).mono ?_
      rintro e w' ⟨rfl, rfl⟩
      go_wp2_with fail
      refine (HB2.out _ HU.out).mono ?_
      rintro e w' ⟨rfl, rfl⟩
      go_wp2
      go_ret2
      exact ⟨_, rfl, OF.nil _ _ _, Below.refl _ _⟩
  | false =>
    obtain ⟨e1, e2⟩ := ad_out (n := n) (f := f) (m := m) (g := g) (by rw [h1]; simp)
    rw [e1, e2]
    rw [h1] at hb1
    have HB1 := Lib.hid hb1
    clear hb1 hb2 h1 hv hu e1 e2
    go_enter Try.func24, Try.ntmps24
    go_wp2_with fail
    refine (HB1.out _ HV.out).mono ?_
    rintro e w' ⟨rfl, rfl⟩
    go_wp2
    go_ret2
    exact ⟨_, rfl, OF.nil _ _ _, Below.refl _ _⟩
end Go.Proofs.Ytmeooebklohdfaa
