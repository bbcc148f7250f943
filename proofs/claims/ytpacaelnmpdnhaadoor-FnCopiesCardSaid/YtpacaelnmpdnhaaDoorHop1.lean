/- LinearHops and MoveHops of both sides. -/
import Derived.Test.YtpacaelnmpdnhaaDoorHop0
namespace Go.Proofs.YtpacaelnmpdnhaaDoor
open Go.RowKit
set_option linter.unusedVariables false
set_option maxRecDepth 100000
theorem hop_mod (i n : Nat) : (i : Int).tmod (n : Int) = ((i % n : Nat) : Int) := by
  rw [Int.tmod_eq_emod_of_nonneg (by omega)]; exact (Int.natCast_emod i n).symm
def cntB (K : Int) : Bool := decide (0 ≤ K) && decide (K ≤ 300)
theorem cntB_iff (K : Int) : cntB K = true ↔ 0 ≤ K ∧ K ≤ 300 := by unfold cntB; simp only [Bool.and_eq_true, decide_eq_true_eq]
def linB (C U K : Int) : Bool := chB C && cntB K && (decide (0 ≤ U) && decide (U < C))
def linN (C U K : Int) : Nat := if linB C U K then K.toNat else 0
def linF (C U : Int) (i : Nat) : Int := ((U.toNat * i % C.toNat : Nat) : Int)
theorem linN_le6 (C U K : Int) : linN C U K ≤ 1000000 := by
  unfold linN linB
  split
  · rename_i h
    simp only [Bool.and_eq_true, cntB_iff] at h
    omega
  · omega
theorem linB_iff (C U K : Int) : linB C U K = true ↔ (1 ≤ C ∧ C ≤ 16) ∧ (0 ≤ K ∧ K ≤ 300) ∧ 0 ≤ U ∧ U < C := by
  unfold linB
  simp only [Bool.and_eq_true, decide_eq_true_eq, chB_iff, cntB_iff, and_assoc]
theorem lin_no {C U K : Int} (h : linB C U K = false) : linN C U K = 0 := by unfold linN; rw [h]; rfl
theorem OF.snocH {w : World} {B : Nat} {v : Value} {i : Nat} {f : Nat → Int} {y : Int} (h : OF w B v (i + 1) (fun j => if j < i then f j else y)) (hy : y = f i) : OF w B v (i + 1) f :=
  h.congr fun j hj => by
    by_cases e : j < i
    · simp only [if_pos e]
    · obtain rfl : j = i := by omega
      simp only [if_neg e]; exact hy
/-- What one hop is, in the numbers of the machine. -/
theorem lin_step (c u i : Nat) (hu : u ≤ 15) (hi : i ≤ 300) : ∃ P R : Nat, (u : Int) * (i : Int) = P ∧ IntKind.i64.wrap ((u : Int) * (i : Int)) = P ∧ (P : Int).tmod (c : Int) = R ∧ linF c u i = R ∧ P ≤ 4500 ∧ (1 ≤ c → R < c) := by
  have h1 : u * i ≤ 15 * 300 := Nat.mul_le_mul hu hi
  refine ⟨u * i, u * i % c, (Int.natCast_mul _ _).symm, ?_, hop_mod _ _, rfl, h1, fun hc => Nat.mod_lt _ hc⟩
  rw [← Int.natCast_mul]
  exact IntWalk.i64_in _ (by omega)
theorem sLin_any (C U K : Int) (w : World) :
    Calls Tryd.prog 62 #[.int .i64 C, .int .i64 U, .int .i64 K] w fun e w' => ∃ u, e = .returned (.tuple #[u, .bool (linB C U K)]) ∧ OF w' w.heap.size u (linN C U K) (linF C U) ∧ Below w.heap.size w w' := by
  have hch := fun w => sCh_any C w
  have hcn := fun w => l1In_any K 0 300 w
  have hcu := fun w => l1In_any U 0 (C - 1) w
  have hno := @lin_no C U K
  have hB : linB C U K = (chB C && cntB K && (decide (0 ≤ U) && decide (U < C))) := rfl
  have O0 := OF.empty0 w (linF C U)
  have b0 := (Below.refl w.heap.size w).alloc (Nat.le_refl _) (.cells #[] 3)
  cases hC : chB C with
  | false =>
    rw [hC] at hch hB
    rw [hno hB, hB]
    have HCH := Lib.hid hch
    clear hch hcn hcu hno hC hB
    go_enter Tryd.func62, Tryd.ntmps62
    go_wp2_with fail
    refine (HCH.out _).mono ?_
    rintro e w' ⟨rfl, rfl⟩
    go_wp2
    go_ret2
    exact ⟨_, rfl, O0, b0⟩
  | true =>
    rw [hC] at hch hB
    obtain ⟨c1, c2⟩ := (chB_iff C).1 hC
    have HCH := Lib.hid hch
    have l0 : IntKind.i64.wrap (C - 1) = C - 1 := IntWalk.i64_in _ (by omega)
    by_cases hU : 0 ≤ U ∧ U < C
    · rw [decide_eq_true hU.1, decide_eq_true (show U ≤ C - 1 by omega)] at hcu
      have HCU := Lib.hid hcu
      cases hK : cntB K with
      | false =>
        have hcn' : ∀ w, Calls Tryd.prog 32 #[.int .i64 K, .int .i64 0, .int .i64 300] w fun e w' => e = .returned (.bool (cntB K)) ∧ w = w' := hcn
        rw [hK] at hcn' hB
        rw [hno hB, hB]
        have HCN := Lib.hid hcn'
        clear hch hcn hcn' hcu hno hC hB hK
        go_enter Tryd.func62, Tryd.ntmps62
        go_wp2_with fail
        refine (HCH.out _).mono ?_
        rintro e w' ⟨rfl, rfl⟩
        go_wp2_with fail
        refine (HCU.out _).mono ?_
        rintro e w' ⟨rfl, rfl⟩
        go_wp2_with fail
        refine (HCN.out _).mono ?_
        rintro e w' ⟨rfl, rfl⟩
        go_wp2
        go_ret2
        exact ⟨_, rfl, O0, b0⟩
      | true =>
        have hcn' : ∀ w, Calls Tryd.prog 32 #[.int .i64 K, .int .i64 0, .int .i64 300] w fun e w' => e = .returned (.bool (cntB K)) ∧ w = w' := hcn
        rw [hK] at hcn' hB
        have HCN := Lib.hid hcn'
        obtain ⟨k1, k2⟩ := (cntB_iff K).1 hK
        obtain ⟨c, rfl⟩ : ∃ c : Nat, C = c := ⟨C.toNat, by omega⟩
        obtain ⟨u, rfl⟩ : ∃ u : Nat, U = u := ⟨U.toNat, by omega⟩
        obtain ⟨k, rfl⟩ : ∃ k : Nat, K = k := ⟨K.toNat, by omega⟩
        rw [decide_eq_true hU.1, decide_eq_true hU.2] at hB
        have hN : linN c u k = k := by unfold linN; rw [hB]; simp
        rw [hN, hB]
        have HST := Lib.hid (fun i (hi : i ≤ 300) => lin_step c u i (by omega) hi)
        have l3 : ¬ ((c : Int) = 0) := by omega
        have l4 : ((c : Int) == 0) = false := by simp; omega
        have hk3 : k ≤ 300 := by omega
        have hc1 : 1 ≤ c := by omega
        have hc2 : c ≤ 16 := by omega
        clear hch hcn hcn' hcu hno hC hB hK hN c1 c2 k1 k2 hU
        go_enter Tryd.func62, Tryd.ntmps62
        go_wp2_with fail
        refine (HCH.out _).mono ?_
        rintro e w' ⟨rfl, rfl⟩
        go_wp2_with fail
        refine (HCU.out _).mono ?_
        rintro e w' ⟨rfl, rfl⟩
        go_wp2_with fail
        refine (HCN.out _).mono ?_
        rintro e w' ⟨rfl, rfl⟩
        go_wp2
        obtain ⟨W, hW⟩ : ∃ W, w.alloc (.cells #[] 3) = W := ⟨_, rfl⟩
        rw [hW] at O0 b0 ⊢
        clear hW
        go_loopw [8, 9] (fun o t wr => ∃ i : Nat, i ≤ k ∧ t = .int .i64 i ∧ OF wr w.heap.size o i (linF c u) ∧ Below w.heap.size w wr) (fun _ t _ => k - (intOf t).toNat)
        case atStart => exact ⟨0, by omega, rfl, O0, b0⟩
        case round =>
          obtain ⟨i, hi, rfl, rO, rb⟩ := hrel
          clear O0 b0
          by_cases hlt : i < k
          · obtain ⟨P, R, e1, e2, e3, e4, e5, e6⟩ := HST.out i (by omega)
            have e7 := e6 hc1
            have bs := rb.size
            have HE := Lib.hid e4
            clear e4 e6
            go_wp2_with (at_builtin; refine wpList_append_int rfl (.tmp 32) (.tmp 38) rfl w.heap.size _ i (linF c u) rfl (rO.alloc _) wr.heap.size 1 (R : Int) rfl (by simp) (by omega) (by simp; omega) ?_; intro v' w3 O3 g3; have c3 : Below w.heap.size w w3 := (rb.alloc bs _).grown g3 (by simp; omega) (fun q hq => (rO.lt q hq).1); have O4 := OF.snocH O3 HE.out.symm; clear rO g3 rb O3)
            go_roundw
            case rel => exact ⟨i + 1, by omega, by go_num, O4, c3⟩
            case measure => simp [intOf]; omega
          · obtain rfl : i = k := by omega
            go_wp2
            go_ret2
            exact ⟨_, rfl, rO, rb⟩
    · have hu : (decide (0 ≤ U) && decide (U ≤ C - 1)) = false := by
        rw [Bool.eq_false_iff]; intro h; rw [Bool.and_eq_true, decide_eq_true_eq, decide_eq_true_eq] at h; omega
      have hB' : linB C U K = false := by
        rw [hB, show (decide (0 ≤ U) && decide (U < C)) = false by rw [Bool.eq_false_iff]; intro h; rw [Bool.and_eq_true, decide_eq_true_eq, decide_eq_true_eq] at h; omega, Bool.and_false]
      rw [hu] at hcu
      rw [hno hB', hB']
      have HCU := Lib.hid hcu
      clear hch hcn hcu hno hC hB hB' hu hU
      go_enter Tryd.func62, Tryd.ntmps62
      go_wp2_with fail
      refine (HCH.out _).mono ?_
      rintro e w' ⟨rfl, rfl⟩
      go_wp2_with fail
      refine (HCU.out _).mono ?_
      rintro e w' ⟨rfl, rfl⟩
      go_wp2
      go_ret2
      exact ⟨_, rfl, O0, b0⟩
end Go.Proofs.YtpacaelnmpdnhaaDoor
