/- superposed of the program, AddSignals of both sides. -/
import Derived.Test.YtlcnlhephhbhcaaSig12
namespace Go.Proofs.Ytlcnlhephhbhcaa
open Go.RowKit
set_option linter.unusedVariables false
set_option maxRecDepth 100000
/-- A slice of N signals that can be read: signal i has ns i samples, fs i. -/
def SigsR (w : World) (v : Value) (N : Nat) (ns : Nat → Nat) (fs : Nat → Nat → Int) : Prop :=
  ∃ a cap, v = .slice a N cap ∧ ∀ i, i < N → ∃ (x : Addr) (u : Value), a = some x ∧ x.block < w.heap.size ∧ w.cell? (x.add i) = some u ∧ IntsR w u (ns i) (fs i)
theorem SigsR.below {w w' : World} {v : Value} {N : Nat} {ns : Nat → Nat} {fs : Nat → Nat → Int} (h : SigsR w v N ns fs) (hb : Below w.heap.size w w') : SigsR w' v N ns fs := by
  obtain ⟨a, cap, rfl, hc⟩ := h
  refine ⟨a, cap, rfl, fun i hi => ?_⟩
  obtain ⟨x, u, rfl, h1, h2, h3⟩ := hc i hi
  exact ⟨x, u, rfl, Nat.lt_of_lt_of_le h1 hb.size, (hb.cell (p := x.add i) (by rw [add_block]; exact h1)).trans h2, h3.below hb⟩
/-- The length of the longest signal, and the sum of all of them. -/
def mxN (ns : Nat → Nat) : Nat → Nat
  | 0 => 0
  | k + 1 => max (mxN ns k) (ns k)
theorem mxN_ge (ns : Nat → Nat) : ∀ N i, i < N → ns i ≤ mxN ns N
  | N + 1, i, h => by
    simp only [mxN]
    by_cases e : i = N
    · subst e; omega
    · have := mxN_ge ns N i (by omega); omega
theorem mxN_le {ns : Nat → Nat} {M : Nat} : ∀ N, (∀ i, i < N → ns i ≤ M) → mxN ns N ≤ M
  | 0, _ => Nat.zero_le _
  | N + 1, h => by
    have h1 := mxN_le (M := M) N (fun i hi => h i (by omega))
    have h2 := h N (by omega)
    simp only [mxN]; omega
def smF (ns : Nat → Nat) (fs : Nat → Nat → Int) (N : Nat) (j : Nat) : Int := sumI (fun i => smp (ns i) (fs i) j) N
theorem smF_succ (ns : Nat → Nat) (fs : Nat → Nat → Int) (N j : Nat) : smF ns fs (N + 1) j = smF ns fs N j + smp (ns N) (fs N) j := rfl
theorem smF_bd {ns : Nat → Nat} {fs : Nat → Nat → Int} (j : Nat) : ∀ N : Nat, (∀ i, i < N → allM (ns i) (fs i) = true) → -(1000000 * (N : Int)) ≤ smF ns fs N j ∧ smF ns fs N j ≤ 1000000 * (N : Int)
  | 0, _ => by simp [smF, sumI]
  | N + 1, h => by
    have ih := smF_bd (ns := ns) (fs := fs) j N (fun i hi => h i (by omega))
    have := smp_bd (h N (by omega)) j
    rw [smF_succ]; omega
set_option maxHeartbeats 1600000 in
set_option maxRecDepth 100000 in
theorem superp_any (v : Value) (N : Nat) (ns : Nat → Nat) (fs : Nat → Nat → Int) (w : World) (h : SigsR w v N ns fs) (hN : N ≤ 8) (hs : ∀ i, i < N → sigB (ns i) (fs i) = true) :
    Calls Try.prog 81 #[v] w fun e w' => ∃ u, e = .returned (.tuple #[u, .bool (sigB (mxN ns N) (smF ns fs N))]) ∧ OF w' w.heap.size u (resN (mxN ns N) (smF ns fs N)) (smF ns fs N) ∧ Below w.heap.size w w' := by
  obtain ⟨a, cap, rfl, hc⟩ := h
  have HC := Lib.hid hc
  have HN3 := Lib.hid (fun i hi => ((sigB_iff _ _).1 (hs i hi)).2)
  have HZ := Lib.hid (fun i hi k (hk : k < ns i) => allM_at ((sigB_iff _ _).1 (hs i hi)).1 hk)
  have HBD := Lib.hid (fun i (hi : i ≤ N) j => smF_bd (ns := ns) (fs := fs) j i (fun i' hi' => ((sigB_iff _ _).1 (hs i' (by omega))).1))
  have HLE := Lib.hid (fun k (hk : k ≤ N) => mxN_le (ns := ns) (M := 3000) k (fun i hi => ((sigB_iff _ _).1 (hs i (by omega))).2))
  have HGE := Lib.hid (fun i hi => mxN_ge ns N i hi)
  have hM := mxN_le (ns := ns) (M := 3000) N (fun i hi => ((sigB_iff _ _).1 (hs i hi)).2)
  have HI := Lib.hid (fun B u w h => iIf_any u B (mxN ns N) (smF ns fs N) w h (by omega))
  obtain ⟨M, hMM⟩ : ∃ M, mxN ns N = M := ⟨_, rfl⟩
  rw [hMM] at hM HI HGE ⊢
  have HMM := Lib.hid hMM
  clear hc hs hMM
  go_enter Try.func81, Try.ntmps81
  go_wp2
  go_loop [4, 14] (fun s t => ∃ k : Nat, k ≤ N ∧ t = .int .i64 k ∧ s = .int .i64 (mxN ns k : Nat)) (fun _ t => N - (intOf t).toNat)
  case atStart => exact ⟨0, by omega, rfl, rfl⟩
  case round =>
    obtain ⟨k, hk, rfl, rfl⟩ := hrel
    by_cases hlt : k < N
    · obtain ⟨x, u, rfl, hx, hcc, hR⟩ := HC.out k hlt
      obtain ⟨ai, ci, rfl, -⟩ := hR
      have hsu : mxN ns (k + 1) = max (mxN ns k) (ns k) := rfl
      have hle := HLE.out k hk
      have hn3 := HN3.out k hlt
      obtain ⟨S, hS⟩ : ∃ S, mxN ns k = S := ⟨_, rfl⟩
      rw [hS] at hsu hle ⊢
      obtain ⟨n, hn⟩ : ∃ n, ns k = n := ⟨_, rfl⟩
      rw [hn] at hsu hcc hn3
      have i0 : (0 : Int) ≤ (k : Int) := by omega
      have i1 : (k : Int) < (N : Int) := by omega
      have HSU := Lib.hid hsu
      clear hS hn hx hsu
      by_cases hmx : S < n
      · have e2 : max S n = n := by omega
        have l1 : (S : Int) < (n : Int) := by omega
        have HR : Hid (mxN ns (k + 1) = n) := Lib.hid (HSU.out.trans e2)
        clear e2
        go_wp2
        go_round
        case rel => exact ⟨k + 1, by omega, by go_num, by rw [HR.out]⟩
        case measure => simp [intOf]; omega
      · have e2 : max S n = S := by omega
        have l1 : ¬ ((S : Int) < (n : Int)) := by omega
        have HR : Hid (mxN ns (k + 1) = S) := Lib.hid (HSU.out.trans e2)
        clear e2
        go_wp2
        go_round
        case rel => exact ⟨k + 1, by omega, by go_num, by rw [HR.out]⟩
        case measure => simp [intOf]; omega
    · obtain rfl : k = N := by omega
      rw [HMM.out]
      have hmk := make_ints M (by omega)
      have O0 := Lib.hid ((OF.made w M (by omega)).congr (g := fun j => smF ns fs 0 j) (fun j _ => rfl))
      have B0 := Lib.hid ((Below.refl w.heap.size w).alloc (Nat.le_refl _) (.cells (madeCells #[.int .i64 0] M) 3))
      clear HLE
      go_wp2
      go_loopw [27] (fun t wr => ∃ i : Nat, i ≤ k ∧ t = .int .i64 i ∧ OF wr w.heap.size (.slice (some ⟨w.heap.size, 0, none⟩) M M) M (fun j => smF ns fs i j) ∧ Below w.heap.size w wr) (fun t _ => k - (intOf t).toNat)
      case atStart => exact ⟨0, by omega, rfl, O0.out, B0.out⟩
      case round =>
        obtain ⟨i, hi, rfl, rO, rb⟩ := hrel
        clear hmk
        by_cases hlt : i < k
        · obtain ⟨x, u, rfl, hx, hcc, hR⟩ := HC.out i hlt
          obtain ⟨ai, ci, rfl, hcells⟩ := hR
          have c0 := (rb.cell (p := x.add i) (by rw [add_block]; exact hx)).trans hcc
          have hn3 := HN3.out i hlt
          have hge := HGE.out i hlt
          have hz := fun j hj => HZ.out i hlt j hj
          have hbd := fun j => HBD.out i hi j
          have hsu := fun j => smF_succ ns fs i j
          obtain ⟨n, hn⟩ : ∃ n, ns i = n := ⟨_, rfl⟩
          rw [hn] at hcells c0 hn3 hge hz hsu
          obtain ⟨f, hf⟩ : ∃ f, fs i = f := ⟨_, rfl⟩
          rw [hf] at hcells hz hsu
          have HCE := Lib.hid hcells
          have HZI := Lib.hid hz
          have HBI := Lib.hid hbd
          have HSU := Lib.hid hsu
          have O3 := Lib.hid (rO.congr (g := fun j => smF ns fs i j + (if j < 0 then f j else 0)) (fun j _ => by simp))
          have RB := Lib.hid rb
          have HXB := Lib.hid hx
          have i0 : (0 : Int) ≤ (i : Int) := by omega
          have i1 : (i : Int) < (k : Int) := by omega
          clear hcells hz hbd hsu hn hf rO rb hx hcc
          go_wp2
          go_loopw [33] (fun t wr2 => ∃ q : Nat, q ≤ n ∧ t = .int .i64 q ∧ OF wr2 w.heap.size (.slice (some ⟨w.heap.size, 0, none⟩) M M) M (fun j => smF ns fs i j + (if j < q then f j else 0)) ∧ Below w.heap.size w wr2) (fun t _ => n - (intOf t).toNat)
          case atStart => exact ⟨0, by omega, rfl, O3.out, RB.out⟩
          case round =>
            obtain ⟨q, hq, rfl, qO, qb⟩ := hrel
            by_cases hqn : q < n
            · obtain ⟨y0, rfl, hy1, hy2⟩ := HCE.out q hqn
              have c1 := (qb.cell (p := y0.add q) (by rw [add_block]; exact hy1)).trans hy2
              have hqM : q < M := by omega
              obtain ⟨s1, s2⟩ := qO.at q hqM
              rw [if_neg (Nat.lt_irrefl q), Int.add_zero] at s1
              obtain ⟨e1, e2⟩ := HBI.out q
              obtain ⟨t1, t2⟩ := HZI.out q hqn
              obtain ⟨S, hS⟩ : ∃ S, smF ns fs i q = S := ⟨_, rfl⟩
              rw [hS] at s1 e1 e2
              obtain ⟨y, hy⟩ : ∃ y, f q = y := ⟨_, rfl⟩
              rw [hy] at c1 t1 t2
              have j0 : (0 : Int) ≤ (q : Int) := by omega
              have j1 : (q : Int) < (n : Int) := by omega
              have j2 : (q : Int) < (M : Int) := by omega
              have f1 : -8000000 ≤ S := by omega
              have f2 : S ≤ 8000000 := by omega
              have nO : Hid (OF (wr.setCell ⟨w.heap.size, q, none⟩ (.int .i64 (S + y))) w.heap.size (.slice (some ⟨w.heap.size, 0, none⟩) M M) M (fun j => smF ns fs i j + (if j < q + 1 then f j else 0))) :=
                Lib.hid (qO.set q (S + y) hqM (fun j hj => by
                  by_cases e : j = q
                  · subst e; rw [if_pos (by omega), if_pos rfl, hy, hS]
                  · rw [if_neg e]
                    by_cases e' : j < q
                    · rw [if_pos (by omega), if_pos e']
                    · rw [if_neg (by omega), if_neg e']))
              have nb : Hid (Below w.heap.size w (wr.setCell ⟨w.heap.size, q, none⟩ (.int .i64 (S + y)))) := Lib.hid (bytes_below qb (Nat.le_refl _) _ _)
              clear qO qb hS hy e1 e2 hy1 hy2
              go_wp2
              go_roundw
              case rel => exact ⟨q + 1, by omega, by go_num, nO.out, nb.out⟩
              case measure => simp [intOf]; omega
            · obtain rfl : q = n := by omega
              have nO := Lib.hid (qO.congr (g := fun j => smF ns fs (i + 1) j) (fun j hj => by rw [HSU.out j]; rfl))
              clear qO
              go_wp2
              go_roundw
              case rel => exact ⟨i + 1, by omega, by go_num, nO.out, qb⟩
              case measure => simp [intOf]; omega
        · obtain rfl : i = k := by omega
          have hI := HI.out w.heap.size (.slice (some ⟨w.heap.size, 0, none⟩) M M) wr rO
          have HII := Lib.hid hI
          clear hI rO
          go_wp2_with fail
          refine (HII.out).mono ?_
          rintro e w3 ⟨u, rfl, O3, b3⟩
          have c3 := below_then rb (Nat.le_refl _) b3
          go_wp2
          go_ret2
          exact ⟨_, rfl, O3, c3⟩
end Go.Proofs.Ytlcnlhephhbhcaa
