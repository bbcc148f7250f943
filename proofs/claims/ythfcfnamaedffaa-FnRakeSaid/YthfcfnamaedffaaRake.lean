/- RakeReceive of the model; what a map of counts and a sum over it are, as functions of the list that was counted. -/
import Derived.Test.YthfcfnamaedffaaSig12
import Derived.Test.YthfcfnamaedffaaSig15
import Derived.Maps.OwnOps
import Derived.Maps.RangeWalk
import Derived.Maps.Views
namespace Go.Proofs.Ythfcfnamaedffaa
open Go.RowKit Go.Maps
set_option linter.unusedVariables false
set_option maxRecDepth 100000
theorem rkBd {f : Nat → Int} {M : Int} (hM : 0 ≤ M) (hf : ∀ i, -M ≤ f i ∧ f i ≤ M) : ∀ n : Nat, -(M * n) ≤ sumI f n ∧ sumI f n ≤ M * n
  | 0 => by simp [sumI]
  | n + 1 => by
    have h1 := rkBd hM hf n
    have h2 := hf n
    have e : M * ((n + 1 : Nat) : Int) = M * (n : Int) + M := by rw [Int.natCast_succ, Int.mul_add, Int.mul_one]
    simp only [sumI]
    rw [e]
    omega
/-- How often y stands among the first m numbers. -/
def cntK (g : Nat → Int) (y : Int) (m : Nat) : Int := sumI (fun i => if g i = y then 1 else 0) m
theorem cntK_succ (g : Nat → Int) (y : Int) (m : Nat) : cntK g y (m + 1) = cntK g y m + (if g m = y then 1 else 0) := rfl
theorem cntK_bd (g : Nat → Int) (y : Int) : ∀ m : Nat, 0 ≤ cntK g y m ∧ cntK g y m ≤ m
  | 0 => by simp [cntK, sumI]
  | m + 1 => by
    have := cntK_bd g y m
    rw [cntK_succ]
    split <;> omega
/-- The map holds of each number how often it has been counted. -/
def MK (D : DataW Unit) (g : Nat → Int) (m : Nat) : Prop :=
  IsMap D ∧ (∀ y : Int, D.atKey (.int .i64 y) (.lit (.int .i64 0)) = .lit (.int .i64 (cntK g y m))) ∧ (∀ i, i < m → has D (.int .i64 (g i)) = true) ∧ ∀ y : Int, has D (.int .i64 y) = true → ∃ i, i < m ∧ g i = y
theorem MK.zero (g : Nat → Int) : MK (.map []) g 0 := ⟨isMap_empty, fun y => rfl, fun i hi => absurd hi (Nat.not_lt_zero _), fun y hy => absurd (show false = true from hy) (by decide)⟩
theorem MK.step {D : DataW Unit} {g : Nat → Int} {m : Nat} (h : MK D g m) {N : Int} (hN : N = cntK g (g m) (m + 1)) : MK (D.put (.int .i64 (g m)) (.lit (.int .i64 N))) g (m + 1) := by
  obtain ⟨h1, h2, h3, h4⟩ := h
  refine ⟨h1.put _ _, fun y => ?_, fun i hi => ?_, fun y hy => ?_⟩
  · by_cases e : g m = y
    · subst e
      rw [atKey_put_same (k := .int .i64 (g m)) h1 trivial, hN]
    · rw [atKey_put_other (by intro e2; injection e2 with _ e2; exact e e2.symm), h2, cntK_succ, if_neg e, Int.add_zero]
  · by_cases e : g i = g m
    · rw [e]; exact has_put_same (k := .int .i64 (g m)) h1 trivial _
    · rw [has_put_other (by intro e2; injection e2 with _ e2; exact e e2)]
      exact h3 i (by
        rcases Nat.lt_or_ge i m with h | h
        · exact h
        · exact absurd (show g i = g m by rw [show i = m by omega]) e)
  · by_cases e : g m = y
    · exact ⟨m, by omega, e⟩
    · rw [has_put_other (by intro e2; injection e2 with _ e2; exact e e2.symm)] at hy
      obtain ⟨i, hi, e3⟩ := h4 y hy
      exact ⟨i, by omega, e3⟩
theorem MK.count {D : DataW Unit} {g : Nat → Int} {m : Nat} (h : MK D g m) {x c : Int} (hat : ∀ zd, D.atKey (.int .i64 x) zd = .lit (.int .i64 c)) : c = cntK g x m ∧ ∃ i, i < m ∧ g i = x := by
  have e := (hat (.lit (.int .i64 0))).symm.trans (h.2.1 x)
  injection e with e
  injection e with _ e
  exact ⟨e, h.2.2.2 x (has_true_of_atKey hat)⟩
theorem MK.look {D : DataW Unit} {g : Nat → Int} {m : Nat} (h : MK D g m) {x c : Int} (hat : D.atKey (.int .i64 x) (.lit (.int .i64 0)) = .lit (.int .i64 c)) : c = cntK g x m := by
  have e := hat.symm.trans (h.2.1 x)
  injection e with e
  injection e with _ e
/-- What the entries that are through add up to. -/
def lfS (F : Int → Nat → Int) (g : Nat → Int) (left : Lit → Bool) (m j : Nat) : Int := sumI (fun i => if left (.int .i64 (g i)) then 0 else F (g i) j) m
theorem lfS_step (F : Int → Nat → Int) (g : Nat → Int) (left : Lit → Bool) (x : Int) (hx : left (.int .i64 x) = true) (j : Nat) : ∀ m, lfS F g (fun z => left z && !z.sameKey (.int .i64 x)) m j = lfS F g left m j + cntK g x m * F x j
  | 0 => by simp [lfS, cntK, sumI]
  | m + 1 => by
    have ih := lfS_step F g left x hx j m
    have e1 : lfS F g (fun z => left z && !z.sameKey (.int .i64 x)) (m + 1) j = lfS F g (fun z => left z && !z.sameKey (.int .i64 x)) m j + (if (left (.int .i64 (g m)) && !(Lit.int .i64 (g m)).sameKey (.int .i64 x)) then 0 else F (g m) j) := rfl
    have e2 : lfS F g left (m + 1) j = lfS F g left m j + (if left (.int .i64 (g m)) then 0 else F (g m) j) := rfl
    rw [e1, e2, ih, cntK_succ, Int.add_mul]
    by_cases e : g m = x
    · rw [e, hx, WideAt.sameKey_self (a := .int .i64 x) trivial]
      simp
      omega
    · rw [sameKey_ne (by intro e2; injection e2 with _ e2; exact e e2), if_neg e]
      simp
      omega
theorem lfS_start (F : Int → Nat → Int) {g : Nat → Int} {left : Lit → Bool} {m : Nat} (h : ∀ i, i < m → left (.int .i64 (g i)) = true) (j : Nat) : lfS F g left m j = 0 := by
  unfold lfS
  rw [sumI_congr (g := fun _ => 0) m (fun i hi => by rw [h i hi]; simp)]
  have z : ∀ k, sumI (fun _ => (0 : Int)) k = 0 := fun k => by induction k with | zero => rfl | succ k ih => simp only [sumI, ih]; rfl
  exact z m
theorem lfS_end (F : Int → Nat → Int) {g : Nat → Int} {left : Lit → Bool} {m : Nat} (h : ∀ kl, left kl = false) (j : Nat) : lfS F g left m j = sumI (fun i => F (g i) j) m :=
  sumI_congr m (fun i hi => by rw [h]; simp)
theorem lfS_bd {F : Int → Nat → Int} (hF : ∀ y j, -300000000 ≤ F y j ∧ F y j ≤ 300000000) (g : Nat → Int) (left : Lit → Bool) {m : Nat} (hm : m ≤ 8) (j : Nat) : -2400000000 ≤ lfS F g left m j ∧ lfS F g left m j ≤ 2400000000 := by
  have h := rkBd (f := fun i => if left (.int .i64 (g i)) then 0 else F (g i) j) (M := 300000000) (by omega) (fun i => by
    have := hF (g i) j
    show -300000000 ≤ (if left (.int .i64 (g i)) then (0 : Int) else F (g i) j) ∧ (if left (.int .i64 (g i)) then (0 : Int) else F (g i) j) ≤ 300000000
    split <;> omega) m
  have e : lfS F g left m j = sumI (fun i => if left (.int .i64 (g i)) then 0 else F (g i) j) m := rfl
  rw [e]
  omega
/-- The correlations with a delay. -/
def rkC (n : Nat) (f : Nat → Int) (q : ByteArray) (y : Int) (j : Nat) : Int := coL n f q y.toNat j
/-- The sums over the first k delays. -/
def rkS (n : Nat) (f : Nat → Int) (q : ByteArray) (g : Nat → Int) (k j : Nat) : Int := sumI (fun i => rkC n f q (g i) j) k
theorem rkS_succ (n : Nat) (f : Nat → Int) (q : ByteArray) (g : Nat → Int) (k j : Nat) : rkS n f q g (k + 1) j = rkS n f q g k j + rkC n f q (g k) j := rfl
theorem rkS_bd {n : Nat} {f : Nat → Int} {q : ByteArray} (hs : sigB n f = true) (hq : seqB q = true) (g : Nat → Int) {k : Nat} (hk : k ≤ 8) (j : Nat) : -2400000000 ≤ rkS n f q g k j ∧ rkS n f q g k j ≤ 2400000000 := by
  have := rkBd (f := fun i => rkC n f q (g i) j) (M := 300000000) (by omega) (fun i => coL_bd hs hq _ _) k
  unfold rkS
  omega
def rkP (n : Nat) (f : Nat → Int) (q : ByteArray) (m : Nat) (g : Nat → Int) (c : Int) : Prop := (1 ≤ m ∧ m ≤ 8) ∧ ∀ k, k < m → rcB n f q (g k) c = true
open Classical in
noncomputable def rkAns (n : Nat) (f : Nat → Int) (q : ByteArray) (m : Nat) (g : Nat → Int) (c : Int) : ByteArray × Bool := if rkP n f q m g c then (sgS c.toNat (rkS n f q g m), true) else noS
theorem rk_yes {n : Nat} {f : Nat → Int} {q : ByteArray} {m : Nat} {g : Nat → Int} {c : Int} (h : rkP n f q m g c) : rkAns n f q m g c = (sgS c.toNat (rkS n f q g m), true) := by unfold rkAns; rw [if_pos h]
theorem rk_no {n : Nat} {f : Nat → Int} {q : ByteArray} {m : Nat} {g : Nat → Int} {c : Int} (h : ¬ rkP n f q m g c) : rkAns n f q m g c = noS := by unfold rkAns; rw [if_neg h]
set_option maxHeartbeats 3200000 in
set_option maxRecDepth 100000 in
theorem sRake_any (v dv : Value) (n m : Nat) (z g : Nat → Int) (q : ByteArray) (c : Int) (w : World) (h : IntsR w v n z) (hd : IntsR w dv m g) (hn : n ≤ 1048576) (hq : q.size ≤ 1048576) (hm : m ≤ 1048576) :
    Calls Try.prog 40 #[v, .string q, dv, .int .i64 c] w fun e w' => e = .returned (.tuple #[.string (rkAns n z q m g c).1, .bool (rkAns n z q m g c).2]) ∧ Below w.heap.size w w' := by
  have hb := fun w h => sRecep_any v n z q 0 c w h hn hq
  have HV := Lib.hid h
  obtain ⟨a, cap, rfl, hdc⟩ := hd
  have HC := Lib.hid hdc
  clear h hdc
  cases hr : rcB n z q 0 c with
  | false =>
    rw [hr] at hb
    rw [rk_no (fun ⟨⟨h1, _⟩, h2⟩ => by
      obtain ⟨r1, r2, r3, r4⟩ := (rcB_iff _ _ _ _ _).1 (h2 0 (by omega))
      rw [(rcB_iff n z q 0 c).2 ⟨r1, r2, by omega, r4⟩] at hr
      exact absurd hr (by decide))]
    have HB := Lib.hid hb
    clear hb hr
    go_enter Try.func40, Try.ntmps40
    go_wp2_with fail
    refine (HB.out _ HV.out).mono ?_
    rintro e w' ⟨rfl, rfl⟩
    go_wp2
    go_ret2
    exact ⟨rfl, Below.refl _ _⟩
  | true =>
    rw [hr] at hb
    obtain ⟨r1, r2, r3, r4⟩ := (rcB_iff _ _ _ _ _).1 hr
    have HB := Lib.hid hb
    clear hb
    by_cases h18 : 1 ≤ m ∧ m ≤ 8
    · have hin := fun w => l1In_yes (m : Int) 1 8 w (by omega) (by omega)
      obtain ⟨p, rfl⟩ : ∃ p : Nat, c = p := ⟨c.toNat, by omega⟩
      obtain ⟨m1, m8⟩ := h18
      have hp6 : p ≤ 600 := by omega
      have hmk := make_ints p (by omega)
      have HI := Lib.hid hin
      have HIN := Lib.hid (fun y w => l1In_any y 0 3000 w)
      have HNO : Hid (∀ k, k < m → ¬ (0 ≤ g k ∧ g k ≤ 3000) → rkAns n z q m g p = noS) := Lib.hid (fun k hk hx => rk_no (fun ⟨_, h2⟩ => hx (by
        obtain ⟨_, _, h5, _⟩ := (rcB_iff _ _ _ _ _).1 (h2 k hk)
        omega)))
      have HYES : Hid ((∀ k, k < m → 0 ≤ g k ∧ g k ≤ 3000) → rkAns n z q m g p = (sgS p (rkS n z q g m), true)) := Lib.hid (fun hx => by
        rw [rk_yes ⟨⟨m1, m8⟩, fun k hk => (rcB_iff _ _ _ _ _).2 ⟨r1, r2, hx k hk, r4⟩⟩]
        simp)
      have HD := Lib.hid (fun w h (s : Nat) (hs : s ≤ 3000) => l4Despread_any v n z q s p w h r1 r2 hs hp6)
      have HSB := Lib.hid (fun k (hk : k ≤ 8) j => rkS_bd (g := g) r1 r2 hk j)
      have HCB := Lib.hid (fun y j => show -300000000 ≤ rkC n z q y j ∧ rkC n z q y j ≤ 300000000 from coL_bd r1 r2 _ _)
      have HG := Lib.hid (fun u w h => sSigns_any u p (rkS n z q g m) w h (by omega))
      have O0 := Lib.hid fun w => (OF.made w p (by omega)).congr (g := rkS n z q g 0) (fun j _ => rfl)
      clear hin hr r1 r2 r3 r4
      go_enter Try.func40, Try.ntmps40
      go_wp2_with fail
      refine (HB.out _ HV.out).mono ?_
      rintro e w' ⟨rfl, rfl⟩
      go_wp2_with fail
      refine (HI.out _).mono ?_
      rintro e w' ⟨rfl, rfl⟩
      go_wp2
      go_loopw [10, 11] (fun s t wr => ∃ k : Nat, k ≤ m ∧ t = .int .i64 k ∧ OF wr w.heap.size s p (rkS n z q g k) ∧ Below w.heap.size w wr ∧ Hid (∀ i, i < k → 0 ≤ g i ∧ g i ≤ 3000)) (fun _ t _ => m - (intOf t).toNat)
      case atStart => exact ⟨0, by omega, rfl, O0.out w, (Below.refl _ _).alloc (Nat.le_refl _) _, Lib.hid (fun i hi => absurd hi (Nat.not_lt_zero _))⟩
      case round =>
        obtain ⟨k, hk, rfl, rO, rb, rG⟩ := hrel
        clear hmk
        by_cases hlt : k < m
        · obtain ⟨x, rfl, hx, hcc⟩ := HC.out k hlt
          have c0 := (rb.cell (p := x.add k) (by rw [add_block]; exact hx)).trans hcc
          have i0 : (0 : Int) ≤ (k : Int) := by omega
          have i1 : (k : Int) < (m : Int) := by omega
          have hno := HNO.out k hlt
          have hcs := rkS_succ n z q g k
          obtain ⟨Y, hY⟩ : ∃ Y, g k = Y := ⟨_, rfl⟩
          rw [hY] at c0 hno hcs
          by_cases hy : 0 ≤ Y ∧ Y ≤ 3000
          · obtain ⟨s, rfl⟩ : ∃ s : Nat, Y = s := ⟨Y.toNat, by omega⟩
            have hs3 : s ≤ 3000 := by omega
            have HY : Hid (∀ i, i < k + 1 → 0 ≤ g i ∧ g i ≤ 3000) := Lib.hid (fun i hi => by
              rcases Nat.lt_or_ge i k with h | h
              · exact rG.out i h
              · rw [show i = k by omega, hY]; exact hy)
            have hi1 := l1In_yes (s : Int) 0 3000 wr hy.1 hy.2
            have HI1 := Lib.hid hi1
            have HE := Lib.hid (fun u1 u2 w h1 h2 => l4Add_any u1 u2 p p (rkS n z q g k) (coL n z q s) w h1 h2 (by omega) (by omega) (fun j => by unfold smp; have := HSB.out k (by omega) j; split <;> omega) (fun j => by unfold smp; have := HCB.out (s : Int) j; have e : rkC n z q (s : Int) j = coL n z q s j := rfl; rw [e] at this; split <;> omega))
            have HADD : Hid (∀ j, j < p → agF p (rkS n z q g k) p (coL n z q s) j = rkS n z q g (k + 1) j) := Lib.hid (fun j hj => by
              unfold agF smp
              rw [if_pos hj, if_pos hj, hcs]
              rfl)
            clear hno hcs hcc hi1 hY
            go_wp2_with fail
            refine HI1.out.mono ?_
            rintro e w' ⟨rfl, rfl⟩
            go_wp2_with fail
            refine (HD.out _ (HV.out.below rb) s hs3).mono ?_
            rintro e w1 ⟨u, rfl, O1, b1⟩
            have rO1 := rO.below b1
            have c1 := below_then rb (Nat.le_refl _) b1
            have q1 := rb.size
            clear rO rb b1 c0
            go_wp2_with fail
            refine (HE.out _ _ _ rO1.ints O1.ints).mono ?_
            rintro e w2 ⟨u2, rfl, O2, b2⟩
            have c2 := below_then c1 (Nat.le_refl _) b2
            have q2 := c1.size
            rw [Nat.max_self] at O2
            have O3 := Lib.hid ((O2.mono q2).congr HADD.out)
            clear O2 b2 c1 rO1 O1
            go_wp2
            go_roundw
            case rel => exact ⟨k + 1, by omega, by go_num, O3.out, c2, HY⟩
            case measure => simp [intOf]; omega
          · have hi1 := l1In_no Y 0 3000 wr hy
            have HN := Lib.hid (hno hy)
            have HI1 := Lib.hid hi1
            clear hno hi1 hcs hcc hy hY
            go_wp2_with fail
            refine HI1.out.mono ?_
            rintro e w' ⟨rfl, rfl⟩
            go_wp2
            go_ret2
            exact ⟨by rw [HN.out]; rfl, rb⟩
        · obtain rfl : k = m := by omega
          have HN := Lib.hid (HYES.out rG.out)
          go_wp2_with fail
          refine (HG.out _ _ rO.ints).mono ?_
          rintro e w1 ⟨rfl, b1⟩
          have c1 := below_then rb (Nat.le_refl _) b1
          go_wp2
          go_ret2
          exact ⟨by rw [HN.out]; rfl, c1⟩
    · have hin := fun w => l1In_no (m : Int) 1 8 w (by omega)
      rw [rk_no (fun ⟨h1, _⟩ => h18 h1)]
      have HI := Lib.hid hin
      clear hin hr r1 r2 r3 r4 h18
      go_enter Try.func40, Try.ntmps40
      go_wp2_with fail
      refine (HB.out _ HV.out).mono ?_
      rintro e w' ⟨rfl, rfl⟩
      go_wp2_with fail
      refine (HI.out _).mono ?_
      rintro e w' ⟨rfl, rfl⟩
      go_wp2
      go_ret2
      exact ⟨rfl, Below.refl _ _⟩
end Go.Proofs.Ythfcfnamaedffaa
