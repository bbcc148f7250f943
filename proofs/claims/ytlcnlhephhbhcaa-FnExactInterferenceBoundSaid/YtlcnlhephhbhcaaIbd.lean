/- InterferenceBound of both sides. -/
import Derived.Test.YtlcnlhephhbhcaaSnd
import Derived.BigQuiet
namespace Go.Proofs.Ytlcnlhephhbhcaa
open Go.RowKit
set_option linter.unusedVariables false
set_option maxRecDepth 100000
def sameU (f : Nat → Usr) (r i : Nat) : Bool := decide ((f i).code.size = (f r).code.size) && decide ((f i).delay = (f r).delay)
def sameN (f : Nat → Usr) (r : Nat) : Nat → Bool
  | 0 => true
  | k + 1 => sameN f r k && sameU f r k
theorem sameN_iff (f : Nat → Usr) (r : Nat) : ∀ n, sameN f r n = true ↔ ∀ i, i < n → (f i).code.size = (f r).code.size ∧ (f i).delay = (f r).delay
  | 0 => ⟨fun _ i hi => absurd hi (Nat.not_lt_zero i), fun _ => rfl⟩
  | n + 1 => by
    simp only [sameN, Bool.and_eq_true]
    rw [sameN_iff f r n]
    unfold sameU
    simp only [Bool.and_eq_true, decide_eq_true_eq]
    constructor
    · rintro ⟨h1, h2⟩ i hi
      by_cases e : i = n
      · rw [e]; exact h2
      · exact h1 i (by omega)
    · exact fun h => ⟨fun i hi => h i (by omega), h n (by omega)⟩
theorem same_any (f : Nat → Usr) {n r : Nat} (hr : r < n) : sameN f 0 n = sameN f r n := by
  have h : sameN f 0 n = true ↔ sameN f r n = true := by
    rw [sameN_iff, sameN_iff]
    constructor
    · exact fun h i hi => ⟨(h i hi).1.trans (h r hr).1.symm, (h i hi).2.trans (h r hr).2.symm⟩
    · exact fun h i hi => ⟨(h i hi).1.trans (h 0 (by omega)).1.symm, (h i hi).2.trans (h 0 (by omega)).2.symm⟩
  cases h1 : sameN f 0 n <;> cases h2 : sameN f r n <;> simp_all
theorem sameN_bad {f : Nat → Usr} {r k : Nat} (h : sameU f r k = false) : ∀ n, k < n → sameN f r n = false
  | 0, hk => absurd hk (Nat.not_lt_zero k)
  | n + 1, hk => by
    simp only [sameN]
    by_cases e : k = n
    · rw [← e, h, Bool.and_false]
    · rw [sameN_bad h n (by omega)]; rfl
def absX (x : Int) : Int := max x (-x)
/-- How much user i can disturb user r. -/
def ibF (f : Nat → Usr) (r i : Nat) : Int := if i = r then 0 else (f i).gain * absX (crossN (f i).code (f r).code 0)
def ibB (n : Nat) (f : Nat → Usr) (k : Int) : Bool := decide (0 ≤ k) && (decide (k < n) && (usrsB n f && sameN f k.toNat n))
def ibAns (n : Nat) (f : Nat → Usr) (k : Int) : Int := if ibB n f k then sumI (ibF f k.toNat) n else -1
theorem ib_no {n : Nat} {f : Nat → Usr} {k : Int} (h : ibB n f k = false) : -1 = ibAns n f k := by unfold ibAns; rw [h]; rfl
theorem ibF_bd {f : Nat → Usr} {r i : Nat} (h : (f i).ok = true) : 0 ≤ ibF f r i ∧ ibF f r i ≤ 255000 := by
  unfold ibF
  split
  · omega
  · obtain ⟨h1, _, ⟨g0, g1, _, _⟩, _⟩ := (usrB_iff _ _ _ _).1 h
    have hc := crossN_bd (f i).code (f r).code 0
    have h3 := ((seqB_iff _).1 h1).2.2
    obtain ⟨x, hx⟩ : ∃ x, absX (crossN (f i).code (f r).code 0) = x := ⟨_, rfl⟩
    have hb : 0 ≤ x ∧ x ≤ 255 := by rw [← hx]; unfold absX; omega
    rw [hx]
    obtain ⟨a, b⟩ := hb
    have h5 := Int.mul_nonneg g0 a
    have h6 : (f i).gain * x ≤ 1000 * 255 := Int.mul_le_mul g1 b a (by omega)
    omega
theorem ibS_bd {f : Nat → Usr} {r : Nat} : ∀ n : Nat, (∀ i, i < n → (f i).ok = true) → 0 ≤ sumI (ibF f r) n ∧ sumI (ibF f r) n ≤ 255000 * (n : Int)
  | 0, _ => ⟨Int.le_refl _, Int.le_refl _⟩
  | n + 1, h => by
    have h1 := ibS_bd (f := f) (r := r) n (fun i hi => h i (by omega))
    have h2 := ibF_bd (r := r) (h n (by omega))
    rw [sumI]
    omega
theorem neq_facts {a b : Int} (h : a ≠ b) : (a != b) = true ∧ (a == b) = false := ⟨by rw [bne_iff_ne]; exact h, by rw [beq_eq_false_iff_ne]; exact h⟩
theorem eq_facts {a b : Int} (h : a = b) : (a != b) = false ∧ (a == b) = true := by subst h; simp
set_option maxHeartbeats 3200000 in
theorem iTog_any (v : Value) (n : Nat) (f : Nat → Usr) (w : World) (h : UsrsR w v n f) (hn : n ≤ 1048576) (hf : UsrSz n f) :
    Calls Try.prog 92 #[v] w fun e w' => e = .returned (.bool (usrsB n f && sameN f 0 n)) ∧ Below w.heap.size w w' := by
  have hu := iUsers_any v n f w h hn hf
  obtain ⟨a, cap, rfl, hc⟩ := h
  have HC := Lib.hid hc
  clear hc
  cases hb : usrsB n f with
  | false =>
    rw [hb] at hu
    have HU := Lib.hid hu
    clear hu hb hf
    go_enter Try.func92, Try.ntmps92
    go_wp2_with fail
    refine HU.out.mono ?_
    rintro e w1 ⟨rfl, b1⟩
    go_wp2
    go_ret
    exact ⟨rfl, b1⟩
  | true =>
    rw [hb] at hu
    have HU := Lib.hid hu
    have HB := Lib.hid (fun k (hk : k < n) h => (sameN_bad (f := f) (r := 0) (k := k) h n hk).symm)
    clear hu hb hf
    go_enter Try.func92, Try.ntmps92
    go_wp2_with fail
    refine HU.out.mono ?_
    rintro e w1 ⟨rfl, b1⟩
    clear HU
    go_wp2
    go_loopw [10] (fun i wr => ∃ k : Nat, k ≤ n ∧ i = .int .i64 k ∧ Hid (sameN f 0 k = true) ∧ Below w.heap.size w wr) (fun i _ => n - (intOf i).toNat)
    case atStart => exact ⟨0, by omega, rfl, Lib.hid rfl, b1⟩
    case round =>
      obtain ⟨k, hk, rfl, rH, rb⟩ := hrel
      clear b1
      by_cases hlt : k < n
      · obtain ⟨b, o, rfl, hx, hcc⟩ := HC.out k hlt
        obtain ⟨b', o', e1, hx', hdd⟩ := HC.out 0 (by omega)
        injection e1 with e1
        injection e1 with e1 e2
        subst e1 e2
        rw [Nat.zero_mul, Nat.add_zero] at hdd
        obtain ⟨c0, c1, c2, c3⟩ := hcc.below rb hx
        have i0 : (0 : Int) ≤ (k : Int) := by omega
        have i1 : (k : Int) < (n : Int) := by omega
        have hbad := HB.out k hlt
        have hnx : sameN f 0 (k + 1) = (decide ((f k).code.size = (f 0).code.size) && decide ((f k).delay = (f 0).delay)) := by simp only [sameN]; rw [rH.out]; rfl
        unfold sameU at hbad
        have hd := hdd.below rb hx
        obtain ⟨C, hC⟩ : ∃ C, (f k).code = C := ⟨_, rfl⟩
        obtain ⟨D, hDD⟩ : ∃ C, (f k).data = C := ⟨_, rfl⟩
        obtain ⟨X, hX⟩ : ∃ C, (f k).gain = C := ⟨_, rfl⟩
        obtain ⟨Y, hY⟩ : ∃ C, (f k).delay = C := ⟨_, rfl⟩
        rw [hC] at c0 hbad hnx
        rw [hDD] at c1
        rw [hX] at c2
        rw [hY] at c3 hbad hnx
        clear hC hDD hX hY hcc hdd rH
        have r1 := rb.alloc rb.size (.cells #[.string C, .string D, .int .i64 X, .int .i64 Y] 26)
        have u1 := UsrAt.new wr 26 C D X Y
        have d1 := hd.below ((Below.refl wr.heap.size wr).alloc (Nat.le_refl _) (.cells #[.string C, .string D, .int .i64 X, .int .i64 Y] 26)) (Nat.lt_of_lt_of_le hx rb.size)
        have n0 : (0 : Int) < (n : Int) := by omega
        have n1 : 0 < n := by omega
        go_wp2_with fail
        clear c0 c1 c2 c3 rb hd hx
        obtain ⟨bx, hbx⟩ : ∃ b, wr.heap.size = b := ⟨_, rfl⟩
        rw [hbx] at u1 ⊢
        obtain ⟨W1, hW1⟩ : ∃ W, wr.alloc (.cells #[.string C, .string D, .int .i64 X, .int .i64 Y] 26) = W := ⟨_, rfl⟩
        rw [hW1] at r1 d1 u1 ⊢
        clear hW1 hbx
        obtain ⟨x0, x1, x2, x3, x4⟩ := u1
        obtain ⟨y0, y1, y2, y3⟩ := d1
        obtain ⟨C0, hC0⟩ : ∃ C, (f 0).code = C := ⟨_, rfl⟩
        obtain ⟨Y0, hY0⟩ : ∃ C, (f 0).delay = C := ⟨_, rfl⟩
        rw [hC0] at y0 hbad hnx
        rw [hY0] at y3 hbad hnx
        clear hC0 hY0 y1 y2
        by_cases s1 : C.size = C0.size
        · obtain ⟨t1, t2⟩ := eq_facts (show (C.size : Int) = (C0.size : Int) by omega)
          by_cases s2 : Y = Y0
          · obtain ⟨t3, t4⟩ := eq_facts s2
            have HX : Hid (sameN f 0 (k + 1) = true) := Lib.hid (by rw [hnx, decide_eq_true s1, decide_eq_true s2]; rfl)
            clear hbad hnx s1 s2
            go_quiet (fail)
            have r2 := below_drewN r1 nq
            clear x0 x1 x2 x3 x4 y0 y3 r1
            go_wp2
            go_roundw
            case rel => exact ⟨k + 1, by omega, by go_num, HX, r2⟩
            case measure => simp [intOf]; omega
          · obtain ⟨t3, t4⟩ := neq_facts s2
            have HX := Lib.hid (hbad (by rw [decide_eq_false s2, Bool.and_false]))
            clear hbad hnx s1 s2
            go_quiet (fail)
            have r2 := below_drewN r1 nq
            clear x0 x1 x2 x3 x4 y0 y3 r1
            go_wp2
            go_ret
            exact ⟨ret_bool HX.out, r2⟩
        · obtain ⟨t1, t2⟩ := neq_facts (show (C.size : Int) ≠ (C0.size : Int) by omega)
          have HX := Lib.hid (hbad (by rw [decide_eq_false s1]; rfl))
          clear hbad hnx s1
          go_quiet (fail)
          have r2 := below_drewN r1 nq
          clear x0 x1 x2 x3 x4 y0 y3 r1
          go_wp2
          go_ret
          exact ⟨ret_bool HX.out, r2⟩
      · obtain rfl : n = k := by omega
        have HX := Lib.hid rH.out.symm
        clear rH
        go_wp2
        go_ret
        exact ⟨ret_bool HX.out, rb⟩
end Go.Proofs.Ytlcnlhephhbhcaa
