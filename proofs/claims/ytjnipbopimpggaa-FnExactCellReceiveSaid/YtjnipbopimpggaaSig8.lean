/- Correlations of a signal with a code: contracts of both sides. -/
import Derived.Test.YtjnipbopimpggaaSig7
import Derived.IntWalk
namespace Go.Proofs.Ytjnipbopimpggaa
open Go.RowKit
set_option linter.unusedVariables false
set_option maxRecDepth 100000
/-- A signal, a code, a delay and a number of bits that can be used. -/
def rcB (n : Nat) (f : Nat → Int) (q : ByteArray) (d c : Int) : Bool := sigB n f && (seqB q && (inK d && (decide (0 ≤ c) && decide (c ≤ 600))))
theorem rcB_iff (n : Nat) (f : Nat → Int) (q : ByteArray) (d c : Int) : rcB n f q d c = true ↔ sigB n f = true ∧ seqB q = true ∧ (0 ≤ d ∧ d ≤ 3000) ∧ 0 ≤ c ∧ c ≤ 600 := by
  unfold rcB; simp only [Bool.and_eq_true, decide_eq_true_eq, inK_iff]
theorem rc_no {n : Nat} {f : Nat → Int} {q : ByteArray} {d c : Int} (h : ¬ (sigB n f = true ∧ seqB q = true ∧ (0 ≤ d ∧ d ≤ 3000) ∧ 0 ≤ c ∧ c ≤ 600)) : false = rcB n f q d c := by
  cases hb : rcB n f q d c with
  | false => rfl
  | true => exact absurd ((rcB_iff _ _ _ _ _).1 hb) h
set_option maxRecDepth 100000 in
theorem iRecep_any (v : Value) (n : Nat) (z : Nat → Int) (q : ByteArray) (d c : Int) (w : World) (h : IntsR w v n z) (hn : n ≤ 1048576) (hq : q.size ≤ 1048576) :
    Calls Try.prog 87 #[v, .string q, .int .i64 d, .int .i64 c] w fun e w' => e = .returned (.bool (rcB n z q d c)) ∧ w = w' := by
  have hb := fun w h => iSig_any v n z w h hn
  have hs := fun w => iSequenceValid_any q w (by omega)
  have HH := Lib.hid h
  cases h1 : sigB n z with
  | false =>
    rw [h1] at hb
    have HB := Lib.hid hb
    have HR := Lib.hid (rc_no (n := n) (f := z) (q := q) (d := d) (c := c) (by rw [h1]; simp))
    clear hb hs h1 h
    go_enter Try.func87, Try.ntmps87
    go_wp2_with fail
    refine (HB.out _ HH.out).mono ?_
    rintro e w' ⟨rfl, rfl⟩
    go_wp2
    go_ret
    exact ⟨ret_bool HR.out, rfl⟩
  | true =>
    rw [h1] at hb
    have HB := Lib.hid hb
    cases h2 : seqB q with
    | false =>
      rw [h2] at hs
      have HS := Lib.hid hs
      have HR := Lib.hid (rc_no (n := n) (f := z) (q := q) (d := d) (c := c) (by rw [h2]; simp))
      clear hb hs h1 h2 h
      go_enter Try.func87, Try.ntmps87
      go_wp2_with fail
      refine (HB.out _ HH.out).mono ?_
      rintro e w' ⟨rfl, rfl⟩
      go_wp2_with fail
      refine (HS.out _).mono ?_
      rintro e w' ⟨rfl, rfl⟩
      go_wp2
      go_ret
      exact ⟨ret_bool HR.out, rfl⟩
    | true =>
      rw [h2] at hs
      have HS := Lib.hid hs
      have hr := rcB_iff n z q d c
      rw [h1, h2] at hr
      have HI := Lib.hid hr
      clear hb hs h1 h2 hr h
      by_cases l1 : 0 ≤ d
      · by_cases l2 : d ≤ 3000
        · by_cases l3 : 0 ≤ c
          · by_cases l4 : c ≤ 600
            · have HR : Hid (true = rcB n z q d c) := Lib.hid ((HI.out.2 ⟨rfl, rfl, ⟨l1, l2⟩, l3, l4⟩).symm)
              go_enter Try.func87, Try.ntmps87
              go_wp2_with fail
              refine (HB.out _ HH.out).mono ?_
              rintro e w' ⟨rfl, rfl⟩
              go_wp2_with fail
              refine (HS.out _).mono ?_
              rintro e w' ⟨rfl, rfl⟩
              go_wp2
              go_ret
              exact ⟨ret_bool HR.out, rfl⟩
            · have HR : Hid (decide (c ≤ 600) = rcB n z q d c) := Lib.hid ((decide_eq_false l4).trans (rc_no (by omega)))
              go_enter Try.func87, Try.ntmps87
              go_wp2_with fail
              refine (HB.out _ HH.out).mono ?_
              rintro e w' ⟨rfl, rfl⟩
              go_wp2_with fail
              refine (HS.out _).mono ?_
              rintro e w' ⟨rfl, rfl⟩
              go_wp2
              go_ret
              exact ⟨ret_bool HR.out, rfl⟩
          · have HR : Hid (false = rcB n z q d c) := Lib.hid (rc_no (by omega))
            go_enter Try.func87, Try.ntmps87
            go_wp2_with fail
            refine (HB.out _ HH.out).mono ?_
            rintro e w' ⟨rfl, rfl⟩
            go_wp2_with fail
            refine (HS.out _).mono ?_
            rintro e w' ⟨rfl, rfl⟩
            go_wp2
            go_ret
            exact ⟨ret_bool HR.out, rfl⟩
        · have HR : Hid (false = rcB n z q d c) := Lib.hid (rc_no (by omega))
          go_enter Try.func87, Try.ntmps87
          go_wp2_with fail
          refine (HB.out _ HH.out).mono ?_
          rintro e w' ⟨rfl, rfl⟩
          go_wp2_with fail
          refine (HS.out _).mono ?_
          rintro e w' ⟨rfl, rfl⟩
          go_wp2
          go_ret
          exact ⟨ret_bool HR.out, rfl⟩
      · have HR : Hid (false = rcB n z q d c) := Lib.hid (rc_no (by omega))
        go_enter Try.func87, Try.ntmps87
        go_wp2_with fail
        refine (HB.out _ HH.out).mono ?_
        rintro e w' ⟨rfl, rfl⟩
        go_wp2_with fail
        refine (HS.out _).mono ?_
        rintro e w' ⟨rfl, rfl⟩
        go_wp2
        go_ret
        exact ⟨ret_bool HR.out, rfl⟩
set_option maxRecDepth 100000 in
theorem sRecep_any (v : Value) (n : Nat) (z : Nat → Int) (q : ByteArray) (d c : Int) (w : World) (h : IntsR w v n z) (hn : n ≤ 1048576) (hq : q.size ≤ 1048576) :
    Calls Try.prog 81 #[v, .string q, .int .i64 d, .int .i64 c] w fun e w' => e = .returned (.bool (rcB n z q d c)) ∧ w = w' := by
  have hb := fun w h => sSig_any v n z w h hn
  have hs := fun w => sSequenceValid_any q w (by omega)
  have HH := Lib.hid h
  cases h1 : sigB n z with
  | false =>
    rw [h1] at hb
    have HB := Lib.hid hb
    have HR := Lib.hid (rc_no (n := n) (f := z) (q := q) (d := d) (c := c) (by rw [h1]; simp))
    clear hb hs h1 h
    go_enter Try.func81, Try.ntmps81
    go_wp2_with fail
    refine (HB.out _ HH.out).mono ?_
    rintro e w' ⟨rfl, rfl⟩
    go_wp2
    go_ret
    exact ⟨ret_bool HR.out, rfl⟩
  | true =>
    rw [h1] at hb
    have HB := Lib.hid hb
    cases h2 : seqB q with
    | false =>
      rw [h2] at hs
      have HS := Lib.hid hs
      have HR := Lib.hid (rc_no (n := n) (f := z) (q := q) (d := d) (c := c) (by rw [h2]; simp))
      clear hb hs h1 h2 h
      go_enter Try.func81, Try.ntmps81
      go_wp2_with fail
      refine (HB.out _ HH.out).mono ?_
      rintro e w' ⟨rfl, rfl⟩
      go_wp2_with fail
      refine (HS.out _).mono ?_
      rintro e w' ⟨rfl, rfl⟩
      go_wp2
      go_ret
      exact ⟨ret_bool HR.out, rfl⟩
    | true =>
      rw [h2] at hs
      have HS := Lib.hid hs
      have hr := rcB_iff n z q d c
      rw [h1, h2] at hr
      have HI := Lib.hid hr
      clear hb hs h1 h2 hr h
      by_cases l1 : 0 ≤ d ∧ d ≤ 3000
      · have H1 := Lib.hid (fun w => l1In_yes d 0 3000 w l1.1 l1.2)
        by_cases l3 : 0 ≤ c ∧ c ≤ 600
        · have H2 := Lib.hid (fun w => l1In_yes c 0 600 w l3.1 l3.2)
          have HR : Hid (true = rcB n z q d c) := Lib.hid ((HI.out.2 ⟨rfl, rfl, l1, l3⟩).symm)
          clear l1 l3
          go_enter Try.func81, Try.ntmps81
          go_wp2_with fail
          refine (HB.out _ HH.out).mono ?_
          rintro e w' ⟨rfl, rfl⟩
          go_wp2_with fail
          refine (HS.out _).mono ?_
          rintro e w' ⟨rfl, rfl⟩
          go_wp2_with fail
          refine (H1.out _).mono ?_
          rintro e w' ⟨rfl, rfl⟩
          go_wp2_with fail
          refine (H2.out _).mono ?_
          rintro e w' ⟨rfl, rfl⟩
          go_wp2
          go_ret
          exact ⟨ret_bool HR.out, rfl⟩
        · have H2 := Lib.hid (fun w => l1In_no c 0 600 w l3)
          have HR : Hid (false = rcB n z q d c) := Lib.hid (rc_no (fun e => l3 e.2.2.2))
          clear l1 l3
          go_enter Try.func81, Try.ntmps81
          go_wp2_with fail
          refine (HB.out _ HH.out).mono ?_
          rintro e w' ⟨rfl, rfl⟩
          go_wp2_with fail
          refine (HS.out _).mono ?_
          rintro e w' ⟨rfl, rfl⟩
          go_wp2_with fail
          refine (H1.out _).mono ?_
          rintro e w' ⟨rfl, rfl⟩
          go_wp2_with fail
          refine (H2.out _).mono ?_
          rintro e w' ⟨rfl, rfl⟩
          go_wp2
          go_ret
          exact ⟨ret_bool HR.out, rfl⟩
      · have H1 := Lib.hid (fun w => l1In_no d 0 3000 w l1)
        have HR : Hid (false = rcB n z q d c) := Lib.hid (rc_no (fun e => l1 e.2.2.1))
        clear l1
        go_enter Try.func81, Try.ntmps81
        go_wp2_with fail
        refine (HB.out _ HH.out).mono ?_
        rintro e w' ⟨rfl, rfl⟩
        go_wp2_with fail
        refine (HS.out _).mono ?_
        rintro e w' ⟨rfl, rfl⟩
        go_wp2_with fail
        refine (H1.out _).mono ?_
        rintro e w' ⟨rfl, rfl⟩
        go_wp2
        go_ret
        exact ⟨ret_bool HR.out, rfl⟩
/-- The correlation of m samples from a place on with a code. -/
def coR (f : Nat → Int) (q : ByteArray) (at_ : Nat) : Nat → Int := sumI (fun i => f (at_ + i) * chF q i)
theorem coR_succ (f : Nat → Int) (q : ByteArray) (at_ m : Nat) : coR f q at_ (m + 1) = coR f q at_ m + f (at_ + m) * chF q m := rfl
/-- The same, as far as the signal goes. -/
def coF (n : Nat) (f : Nat → Int) (q : ByteArray) (at_ : Nat) : Int := coR f q at_ (min q.size (n - at_))
def coL (n : Nat) (f : Nat → Int) (q : ByteArray) (d : Nat) (i : Nat) : Int := coF n f q (d + i * q.size)
theorem chip_bd {y c : Int} (h1 : -1000000 ≤ y) (h2 : y ≤ 1000000) (hc : c = 1 ∨ c = -1) : -1000000 ≤ y * c ∧ y * c ≤ 1000000 := by
  rcases hc with rfl | rfl
  · rw [Int.mul_one]; exact ⟨h1, h2⟩
  · rw [Int.mul_neg, Int.mul_one]; omega
theorem coR_bd {n : Nat} {f : Nat → Int} {q : ByteArray} (hA : allM n f = true) (hq : okB q q.size = true) (at_ : Nat) : ∀ m, m ≤ q.size → at_ + m ≤ n → -(1000000 * (m : Int)) ≤ coR f q at_ m ∧ coR f q at_ m ≤ 1000000 * (m : Int)
  | 0, _, _ => by simp [coR, sumI]
  | m + 1, h1, h2 => by
    have ih := coR_bd hA hq at_ m (by omega) (by omega)
    have hz := allM_at hA (show at_ + m < n by omega)
    have := chip_bd hz.1 hz.2 (chF_bd hq (show m < q.size by omega))
    rw [coR_succ]; omega
set_option maxHeartbeats 3200000 in
set_option maxRecDepth 100000 in
theorem iCorr_any (v : Value) (n : Nat) (z : Nat → Int) (q : ByteArray) (d c : Nat) (w : World) (h : IntsC w v n z) (hs : sigB n z = true) (hq : seqB q = true) (hd : d ≤ 3000) (hc : c ≤ 600) :
    Calls Try.prog 89 #[v, .string q, .int .i64 (d : Int), .int .i64 (c : Int)] w fun e w' => ∃ u, e = .returned u ∧ OF w' w.heap.size u c (coL n z q d) ∧ Below w.heap.size w w' := by
  obtain ⟨hA, h3⟩ := (sigB_iff n z).1 hs
  obtain ⟨hk, q1, q2⟩ := (seqB_iff q).1 hq
  have HCH := Lib.hid (fun w => iChips_yes q w hk (by omega))
  have HBD := Lib.hid (fun at_ m h1 h2 => coR_bd hA hk at_ m h1 h2)
  have HZ := Lib.hid (fun k (hk : k < n) => allM_at hA hk)
  have HCB := Lib.hid (fun k (h : k < q.size) => chF_bd hk h)
  have HV := Lib.hid h
  have HCUT := Lib.hid (fun (w : World) (h : IntsC w v n z) (l m : Nat) hl hm => cutC h l m hl hm)
  obtain ⟨a, cap, rfl, -⟩ := h
  have hmk := make_ints c (by omega)
  have HCO : Hid (∀ i, coL n z q d i = coR z q (d + i * q.size) (min q.size (n - (d + i * q.size)))) := Lib.hid (fun i => rfl)
  have HQB : Hid (∀ i, i < c → i * q.size ≤ 153000) := Lib.hid (fun i hi => Nat.mul_le_mul (show i ≤ 600 by omega) q2)
  clear hA hk hs hq
  obtain ⟨L, hL⟩ : ∃ L, q.size = L := ⟨_, rfl⟩
  rw [hL] at HCH HBD HCB HCO HQB q1 q2
  clear hL
  go_enter Try.func89, Try.ntmps89
  go_wp2_with fail
  refine (HCH.out _).mono ?_
  rintro e w1 ⟨vc, rfl, OC, b1⟩
  have hV1 := Lib.hid (HV.out.below b1)
  obtain ⟨ac, capc, rfl, hoc⟩ := OC.form
  obtain ⟨g, rfl, _, hg, hcells⟩ := hoc (by omega)
  have HG := Lib.hid hg
  have HCC := Lib.hid hcells
  have B1 := Lib.hid b1
  have b0 : Below w1.heap.size w1 (w1.alloc (.cells (madeCells #[.int .i64 0] c) 3)) := (Below.refl w1.heap.size w1).alloc (Nat.le_refl _) _
  have o0 : OF (w1.alloc (.cells (madeCells #[.int .i64 0] c) 3)) w1.heap.size (.slice (some ⟨w1.heap.size, 0, none⟩) c c) c (fun j => if j < 0 then coL n z q d j else 0) := (OF.made w1 c (by omega)).congr (fun j _ => by simp)
  have O0 := Lib.hid o0
  have BB0 := Lib.hid b0
  clear OC b1 hoc hcells hg o0 b0
  go_wp2
  go_loopw [21] (fun t wr => ∃ i : Nat, i ≤ c ∧ t = .int .i64 i ∧ OF wr w1.heap.size (.slice (some ⟨w1.heap.size, 0, none⟩) c c) c (fun j => if j < i then coL n z q d j else 0) ∧ Below w1.heap.size w1 wr) (fun t _ => c - (intOf t).toNat)
  case atStart => exact ⟨0, by omega, rfl, O0.out, BB0.out⟩
  case round =>
    obtain ⟨i, hi, rfl, rO, rb⟩ := hrel
    clear hmk
    by_cases hlt : i < c
    · have hqb := HQB.out i hlt
      have hco := HCO.out i
      obtain ⟨Q, hQ⟩ : ∃ Q, i * L = Q := ⟨_, rfl⟩
      have hQi : (i : Int) * (L : Int) = (Q : Int) := by rw [← hQ, Int.natCast_mul]
      rw [hQ] at hqb hco
      obtain ⟨A, hA⟩ : ∃ A, d + Q = A := ⟨_, rfl⟩
      have hAi : (d : Int) + (Q : Int) = (A : Int) := by omega
      rw [hA] at hco
      have hAb : A ≤ 156000 := by omega
      clear hQ hA
      obtain ⟨A', M, m, E, f1, f2, f3, f4, f5, f6, f9, f7⟩ : ∃ A' M m E : Nat, A' ≤ M ∧ M ≤ n ∧ M - A' = m ∧ m = min L (n - A) ∧ (0 < m → A' = A) ∧ (A' : Int) + (L : Int) = (E : Int) ∧ (0 < m → A + m ≤ n) ∧
          ((¬ ((n : Int) < (A : Int)) ∧ A = A' ∧ ¬ ((n : Int) < (E : Int)) ∧ E = M) ∨ (¬ ((n : Int) < (A : Int)) ∧ A = A' ∧ (n : Int) < (E : Int) ∧ n = M) ∨ ((n : Int) < (A : Int) ∧ n = A' ∧ (n : Int) < (E : Int) ∧ n = M)) := by
        by_cases x1 : n < A
        · exact ⟨n, n, 0, n + L, by omega, by omega, by omega, by omega, by omega, by omega, by omega, .inr (.inr ⟨by omega, rfl, by omega, rfl⟩)⟩
        · by_cases x2 : n < A + L
          · exact ⟨A, n, n - A, A + L, by omega, by omega, by omega, by omega, by omega, by omega, by omega, .inr (.inl ⟨by omega, rfl, by omega, rfl⟩)⟩
          · exact ⟨A, A + L, L, A + L, by omega, by omega, by omega, by omega, by omega, by omega, by omega, .inl ⟨by omega, rfl, by omega, rfl⟩⟩
      obtain ⟨a2, cap2, hcut, hcc⟩ := HCUT.out w1 hV1.out A' M f1 f2
      rw [f3] at hcut hcc
      have HCELL : Hid (∀ k, k < m → ∃ x : Addr, a2 = some x ∧ x.block < w1.heap.size ∧ w1.cell? (x.add k) = some (.int .i64 (z (A + k)))) := Lib.hid (fun k hk => by
        have e5 := f5 (by omega)
        obtain ⟨a3, c3, e3, _, h4⟩ := hcc
        injection e3 with e3 _ _
        obtain ⟨x, e6, h6, h7⟩ := h4 k hk
        exact ⟨x, e3.trans e6, h6, by rw [h7, e5]⟩)
      rw [← f4] at hco
      have HM : Hid (m ≤ L ∧ (0 < m → A + m ≤ n)) := Lib.hid ⟨by omega, f9⟩
      have HCOI := Lib.hid hco
      have O3 : Hid (OF wr w1.heap.size (.slice (some ⟨w1.heap.size, 0, none⟩) c c) c (fun j => if j < i then coL n z q d j else if j = i then coR z q A 0 else 0)) := Lib.hid (rO.congr (fun j hj => by
        by_cases e : j < i
        · simp only [if_pos e]
        · simp only [if_neg e, coR, sumI]; split <;> rfl))
      have RB := Lib.hid rb
      have i0 : (0 : Int) ≤ (i : Int) := by omega
      have i1 : (i : Int) < (c : Int) := by omega
      have j0 : (0 : Int) ≤ (A' : Int) := by omega
      have j1 : (A' : Int) ≤ (M : Int) := by omega
      have j2 : (M : Int) ≤ (n : Int) := by omega
      clear rO rb hcc f1 f2 f3 f4 f5 f9 hco
      rcases f7 with ⟨f7, rfl, f8, rfl⟩ | ⟨f7, rfl, f8, rfl⟩ | ⟨f7, rfl, f8, rfl⟩
      all_goals
        go_wp2
        go_loopw [44] (fun t wr2 => ∃ k : Nat, k ≤ m ∧ t = .int .i64 k ∧ OF wr2 w1.heap.size (.slice (some ⟨w1.heap.size, 0, none⟩) c c) c (fun j => if j < i then coL n z q d j else if j = i then coR z q A k else 0) ∧ Below w1.heap.size w1 wr2) (fun t _ => m - (intOf t).toNat)
        case atStart => exact ⟨0, by omega, rfl, O3.out, RB.out⟩
        case round =>
          obtain ⟨k, hk, rfl, qO, qb⟩ := hrel
          obtain ⟨m1, m2⟩ := HM.out
          by_cases hkl : k < m
          · obtain ⟨x, rfl, hx, hcx⟩ := HCELL.out k hkl
            have c0 := (qb.cell (p := x.add k) (by rw [add_block]; exact hx)).trans hcx
            have c1 := (qb.cell (p := ⟨g, k, none⟩) HG.out).trans (HCC.out k (by omega)).1
            obtain ⟨s1, s2⟩ := qO.at i hlt
            rw [if_neg (Nat.lt_irrefl i), if_pos rfl] at s1
            obtain ⟨e1, e2⟩ := HBD.out A k (by omega) (by omega)
            obtain ⟨t1, t2⟩ := HZ.out (A + k) (by omega)
            obtain ⟨p1, p2⟩ := chip_bd t1 t2 (HCB.out k (by omega))
            have hst := coR_succ z q A k
            obtain ⟨S, hS⟩ : ∃ S, coR z q A k = S := ⟨_, rfl⟩
            rw [hS] at s1 e1 e2 hst
            obtain ⟨y, hy⟩ : ∃ y, z (A + k) = y := ⟨_, rfl⟩
            rw [hy] at c0 t1 t2 p1 p2 hst
            obtain ⟨C, hC⟩ : ∃ C, chF q k = C := ⟨_, rfl⟩
            rw [hC] at c1 p1 p2 hst
            obtain ⟨P, hP⟩ : ∃ P, y * C = P := ⟨_, rfl⟩
            rw [hP] at p1 p2 hst
            obtain ⟨T, hT⟩ : ∃ T, S + P = T := ⟨_, rfl⟩
            rw [hT] at hst
            have k255 : k ≤ 255 := by omega
            have u1 : IntKind.i64.wrap (C * y) = P := by rw [Int.mul_comm, hP]; exact IntWalk.i64_in _ (by omega)
            have u2 : IntKind.i64.wrap (S + P) = T := by rw [hT]; exact IntWalk.i64_in _ (by omega)
            have k0 : (0 : Int) ≤ (k : Int) := by omega
            have k1 : (k : Int) < (m : Int) := by omega
            have k2 : (k : Int) < (L : Int) := by omega
            have nO : Hid (OF (wr.setCell ⟨w1.heap.size, i, none⟩ (.int .i64 T)).drew w1.heap.size (.slice (some ⟨w1.heap.size, 0, none⟩) c c) c (fun j => if j < i then coL n z q d j else if j = i then coR z q A (k + 1) else 0)) :=
              Lib.hid (OF.below (qO.set i T hlt (fun j hj => by
                by_cases e : j = i
                · subst e; simp only [Nat.lt_irrefl, if_false, if_true]; exact hst
                · by_cases e' : j < i <;> simp only [e, e', if_true, if_false])) (below_drew (Below.refl _ _)))
            have nb : Hid (Below w1.heap.size w1 (wr.setCell ⟨w1.heap.size, i, none⟩ (.int .i64 T)).drew) := Lib.hid (below_drew (bytes_below qb (Nat.le_refl _) _ _))
            clear qO qb hst hS hy hC hP hT e1 e2 t1 t2 p1 p2 hx hcx m1 m2
            go_wp2_with fail
            go_still_tail 12, (by kernel_rfl)
            clear u1 u2
            go_wp2
            go_roundw
            case rel => exact ⟨k + 1, by omega, by go_num, nO.out, nb.out⟩
            case measure => simp [intOf]; omega
          · obtain rfl : k = m := by omega
            have nO : Hid (OF wr w1.heap.size (.slice (some ⟨w1.heap.size, 0, none⟩) c c) c (fun j => if j < i + 1 then coL n z q d j else 0)) := Lib.hid (qO.congr fun j hj => by
              by_cases e : j = i
              · subst e; rw [if_neg (Nat.lt_irrefl _), if_pos rfl, if_pos (by omega)]; exact HCOI.out.symm
              · by_cases e' : j < i
                · rw [if_pos e', if_pos (by omega)]
                · rw [if_neg e', if_neg e, if_neg (by omega)])
            clear qO
            go_wp2
            go_roundw
            case rel => exact ⟨i + 1, by omega, by go_num, nO.out, qb⟩
            case measure => simp [intOf]; omega
    · obtain rfl : i = c := by omega
      have nO := rO.congr (g := coL n z q d) (fun j hj => by rw [if_pos hj])
      have b3 := below_then B1.out (Nat.le_refl _) (rb)
      have HO := Lib.hid (nO.mono (B1.out.size))
      clear rO nO
      go_wp2
      go_ret
      exact ⟨_, rfl, HO.out, b3⟩
end Go.Proofs.Ytjnipbopimpggaa
