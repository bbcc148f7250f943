/- Users that are valid, their signals, SendAll: both sides. -/
import Derived.Test.YthfcfnamaedffaaUsrs2
import Derived.Test.YthfcfnamaedffaaSig11
import Derived.Test.YthfcfnamaedffaaSig12
import Derived.Test.YthfcfnamaedffaaSsUser
import Derived.Deep.RegionHeld3
namespace Go.Proofs.Ythfcfnamaedffaa
open Go.RowKit
set_option linter.unusedVariables false
set_option maxRecDepth 100000
def Usr.ok (u : Usr) : Bool := usrB u.code u.data u.gain u.delay
def okN (f : Nat → Usr) : Nat → Bool
  | 0 => true
  | k + 1 => okN f k && (f k).ok
def usrsB (n : Nat) (f : Nat → Usr) : Bool := okN f n && decide (n ≤ 8)
theorem okN_bad {f : Nat → Usr} {k : Nat} (h : (f k).ok = false) : ∀ n, k < n → okN f n = false
  | 0, hk => absurd hk (Nat.not_lt_zero k)
  | n + 1, hk => by
    simp only [okN]
    by_cases e : k = n
    · rw [← e, h, Bool.and_false]
    · rw [okN_bad h n (by omega)]; rfl
theorem okN_at {f : Nat → Usr} {k : Nat} : ∀ n, okN f n = true → k < n → (f k).ok = true
  | 0, _, hk => absurd hk (Nat.not_lt_zero k)
  | n + 1, h, hk => by
    simp only [okN, Bool.and_eq_true] at h
    by_cases e : k = n
    · rw [e]; exact h.2
    · exact okN_at n h.1 (by omega)
theorem usrs_long {n : Nat} {f : Nat → Usr} (h : ¬ n ≤ 8) : false = usrsB n f := by unfold usrsB; rw [decide_eq_false h, Bool.and_false]
theorem usrs_bad {n k : Nat} {f : Nat → Usr} (hk : k < n) (h : (f k).ok = false) : false = usrsB n f := by unfold usrsB; rw [okN_bad h n hk]; rfl
theorem usrs_all {n : Nat} {f : Nat → Usr} (h : okN f n = true) : decide (n ≤ 8) = usrsB n f := by unfold usrsB; rw [h]; rfl
/-- Texts that are not too long. -/
def UsrSz (n : Nat) (f : Nat → Usr) : Prop := ∀ i, i < n → (f i).code.size ≤ 1048576 ∧ (f i).data.size ≤ 1048576
set_option maxHeartbeats 800000 in
theorem iUsers_any (v : Value) (n : Nat) (f : Nat → Usr) (w : World) (h : UsrsR w v n f) (hn : n ≤ 1048576) (hf : UsrSz n f) :
    Calls Try.prog 75 #[v] w fun e w' => e = .returned (.bool (usrsB n f)) ∧ Below w.heap.size w w' := by
  obtain ⟨a, cap, rfl, hc⟩ := h
  have HC := Lib.hid hc
  have HF := Lib.hid hf
  clear hc hf
  by_cases h8 : n ≤ 8
  · have HE := Lib.hid (fun h => usrs_all (n := n) (f := f) h)
    have HB := Lib.hid (fun k (hk : k < n) h => usrs_bad (f := f) hk h)
    have l8 : ¬ ((8 : Int) < (n : Int)) := by omega
    have d8 := decide_eq_true h8
    go_enter Try.func75, Try.ntmps75
    go_wp2
    go_loopw [10] (fun i wr => ∃ k : Nat, k ≤ n ∧ i = .int .i64 k ∧ Hid (okN f k = true) ∧ Below w.heap.size w wr) (fun i _ => n - (intOf i).toNat)
    case atStart => exact ⟨0, by omega, rfl, Lib.hid rfl, Below.refl _ _⟩
    case round =>
      obtain ⟨k, hk, rfl, rH, rb⟩ := hrel
      by_cases hlt : k < n
      · obtain ⟨b, o, rfl, hx, hcc⟩ := HC.out k hlt
        obtain ⟨f1, f2⟩ := HF.out k hlt
        obtain ⟨c0, c1, c2, c3⟩ := hcc.below rb hx
        have i0 : (0 : Int) ≤ (k : Int) := by omega
        have i1 : (k : Int) < (n : Int) := by omega
        have hv := fun w => iUser_any (f k).code (f k).data (f k).gain (f k).delay w f1 f2
        have hbad := HB.out k hlt
        have hnx : okN f (k + 1) = usrB (f k).code (f k).data (f k).gain (f k).delay := by simp only [okN]; rw [rH.out]; rfl
        unfold Usr.ok at hbad
        obtain ⟨T, hT⟩ : ∃ T, usrB (f k).code (f k).data (f k).gain (f k).delay = T := ⟨_, rfl⟩
        rw [hT] at hv hbad hnx
        have HV := Lib.hid hv
        clear hv hT hcc rH f1 f2
        cases T with
        | false =>
          have HX := Lib.hid (hbad rfl)
          clear hbad hnx
          go_wp2_with fail
          refine (HV.out _).mono ?_
          rintro e w5 ⟨rfl, hb⟩
          have r5 := below_then (rb.alloc rb.size _) (Nat.le_refl _) hb
          clear c0 c1 c2 c3 hb rb
          go_wp2
          go_ret
          exact ⟨ret_bool HX.out, r5⟩
        | true =>
          have HX := Lib.hid hnx
          clear hbad hnx
          go_wp2_with fail
          refine (HV.out _).mono ?_
          rintro e w5 ⟨rfl, hb⟩
          have r5 := below_then (rb.alloc rb.size _) (Nat.le_refl _) hb
          clear c0 c1 c2 c3 hb rb
          go_wp2
          go_roundw
          case rel => exact ⟨k + 1, by omega, by go_num, HX, r5⟩
          case measure => simp [intOf]; omega
      · obtain rfl : n = k := by omega
        have HX := Lib.hid ((HE.out rH.out).symm.trans d8)
        clear d8
        go_wp2
        go_ret
        exact ⟨ret_bool HX.out.symm, rb⟩
  · have HE := Lib.hid (usrs_long (f := f) h8)
    have l8 : ((8 : Int) < (n : Int)) := by omega
    go_enter Try.func75, Try.ntmps75
    go_wp2
    go_ret
    exact ⟨ret_bool HE.out, Below.refl _ _⟩
set_option maxHeartbeats 800000 in
theorem sUsers_any (v : Value) (n : Nat) (f : Nat → Usr) (w : World) (h : UsrsR w v n f) (hn : n ≤ 1048576) (hf : UsrSz n f) :
    Calls Try.prog 78 #[v] w fun e w' => e = .returned (.bool (usrsB n f)) ∧ Below w.heap.size w w' := by
  obtain ⟨a, cap, rfl, hc⟩ := h
  have HC := Lib.hid hc
  have HF := Lib.hid hf
  clear hc hf
  have HE := Lib.hid (fun h => usrs_all (n := n) (f := f) h)
  have HB := Lib.hid (fun k (hk : k < n) h => usrs_bad (f := f) hk h)
  go_enter Try.func78, Try.ntmps78
  go_wp2
  go_loopw [3] (fun i wr => ∃ k : Nat, k ≤ n ∧ i = .int .i64 k ∧ Hid (okN f k = true) ∧ Below w.heap.size w wr) (fun i _ => n - (intOf i).toNat)
  case atStart => exact ⟨0, by omega, rfl, Lib.hid rfl, Below.refl _ _⟩
  case round =>
    obtain ⟨k, hk, rfl, rH, rb⟩ := hrel
    by_cases hlt : k < n
    · obtain ⟨b, o, rfl, hx, hcc⟩ := HC.out k hlt
      obtain ⟨f1, f2⟩ := HF.out k hlt
      obtain ⟨c0, c1, c2, c3⟩ := hcc.below rb hx
      have i0 : (0 : Int) ≤ (k : Int) := by omega
      have i1 : (k : Int) < (n : Int) := by omega
      have hv := fun w => sUser_any (f k).code (f k).data (f k).gain (f k).delay w f1 f2
      have hbad := HB.out k hlt
      have hnx : okN f (k + 1) = usrB (f k).code (f k).data (f k).gain (f k).delay := by simp only [okN]; rw [rH.out]; rfl
      unfold Usr.ok at hbad
      obtain ⟨T, hT⟩ : ∃ T, usrB (f k).code (f k).data (f k).gain (f k).delay = T := ⟨_, rfl⟩
      rw [hT] at hv hbad hnx
      have HV := Lib.hid hv
      clear hv hT hcc rH f1 f2
      cases T with
      | false =>
        have HX := Lib.hid (hbad rfl)
        clear hbad hnx
        go_wp2_with fail
        refine (HV.out _).mono ?_
        rintro e w5 ⟨rfl, hb⟩
        have r5 := below_then rb (Nat.le_refl _) hb
        clear c0 c1 c2 c3 hb rb
        go_wp2
        go_ret
        exact ⟨ret_bool HX.out, r5⟩
      | true =>
        have HX := Lib.hid hnx
        clear hbad hnx
        go_wp2_with fail
        refine (HV.out _).mono ?_
        rintro e w5 ⟨rfl, hb⟩
        have r5 := below_then rb (Nat.le_refl _) hb
        clear c0 c1 c2 c3 hb rb
        go_wp2
        go_roundw
        case rel => exact ⟨k + 1, by omega, by go_num, HX, r5⟩
        case measure => simp [intOf]; omega
    · obtain rfl : n = k := by omega
      have HX := Lib.hid (HE.out rH.out)
      clear rH
      by_cases h8 : n ≤ 8
      · have HY := Lib.hid ((decide_eq_true h8).symm.trans HX.out)
        go_wp2
        go_ret
        exact ⟨ret_bool ((decide_eq_true (by omega)).trans HY.out), rb⟩
      · have HY := Lib.hid ((decide_eq_false h8).symm.trans HX.out)
        have l8 : ¬ ((n : Int) ≤ 8) := by omega
        go_wp2
        go_ret
        exact ⟨ret_bool HY.out, rb⟩
/-- The signal of a user: its length and its samples. -/
def Usr.len (u : Usr) : Nat := u.delay.toNat + u.data.size * u.code.size
def Usr.sig (u : Usr) : Nat → Int := dlF u.delay.toNat (scF u.gain (spF u.data u.code u.code.size))
theorem sp_bd {p q : ByteArray} (hp : okB p p.size = true) (hq : okB q q.size = true) (t : Nat) (ht : t < p.size * q.size) : -1 ≤ spF p q q.size t ∧ spF p q q.size t ≤ 1 := by
  have hL : 0 < q.size := by
    rcases Nat.eq_zero_or_pos q.size with e | e
    · rw [e, Nat.mul_zero] at ht; omega
    · exact e
  have h1 : t / q.size < p.size := by rw [Nat.div_lt_iff_lt_mul hL]; exact ht
  have h2 : t % q.size < q.size := Nat.mod_lt _ hL
  exact sgn_bd (chF_bd hp h1) (chF_bd hq h2)
theorem gain_bd {g y : Int} (h0 : 0 ≤ g) (h1 : g ≤ 1000) (hy : -1 ≤ y ∧ y ≤ 1) : -1000 ≤ g * y ∧ g * y ≤ 1000 := by
  rcases (show y = -1 ∨ y = 0 ∨ y = 1 by omega) with rfl | rfl | rfl <;> omega
theorem usr_parts {c p : ByteArray} {g d : Int} (h : usrB c p g d = true) : p.size * c.size ≤ 3000 ∧ sigB (p.size * c.size) (spF p c c.size) = true ∧ sigB (p.size * c.size) (scF g (spF p c c.size)) = true ∧
    d.toNat + p.size * c.size ≤ 3000 ∧ sigB (d.toNat + p.size * c.size) (dlF d.toNat (scF g (spF p c c.size))) = true ∧ ∀ j, -1000 ≤ smp (d.toNat + p.size * c.size) (dlF d.toNat (scF g (spF p c c.size))) j ∧ smp (d.toNat + p.size * c.size) (dlF d.toNat (scF g (spF p c c.size))) j ≤ 1000 := by
  obtain ⟨h1, h2, ⟨g0, g1, d0, d1⟩, h3⟩ := (usrB_iff _ _ _ _).1 h
  obtain ⟨c1, c2, c3⟩ := (seqB_iff c).1 h1
  obtain ⟨p1, p2⟩ := (bits_iff p).1 h2
  have hP : ((p.size * c.size : Nat) : Int) = (p.size : Int) * (c.size : Int) := Int.natCast_mul _ _
  obtain ⟨P, hPP⟩ : ∃ P, p.size * c.size = P := ⟨_, rfl⟩
  have hb := fun t (ht : t < P) => sp_bd p1 c1 t (by rw [hPP]; exact ht)
  have hs := fun t (ht : t < P) => gain_bd g0 g1 (hb t ht)
  rw [hPP] at hP ⊢
  have hk : d.toNat + P ≤ 3000 := by omega
  refine ⟨by omega, (sigB_iff _ _).2 ⟨allM_of fun t ht => by have := hb t ht; omega, by omega⟩, (sigB_iff _ _).2 ⟨allM_of fun t ht => by have := hs t ht; unfold scF; omega, by omega⟩, hk,
    (sigB_iff _ _).2 ⟨allM_of fun t ht => ?_, hk⟩, fun j => ?_⟩
  · unfold dlF
    split
    · omega
    · have := hs (t - d.toNat) (by omega); unfold scF; omega
  · unfold smp
    split
    · unfold dlF
      split
      · omega
      · exact hs (j - d.toNat) (by omega)
    · omega
set_option maxHeartbeats 1600000 in
theorem iSigOf_yes (c p : ByteArray) (g d : Int) (w : World) (h : usrB c p g d = true) :
    Calls Try.prog 76 #[.agg #[.string c, .string p, .int .i64 g, .int .i64 d]] w fun e w' => ∃ u, e = .returned u ∧ OF w' w.heap.size u (d.toNat + p.size * c.size) (dlF d.toNat (scF g (spF p c c.size))) ∧ Below w.heap.size w w' := by
  obtain ⟨q1, q2, q3, q4, q5, _⟩ := usr_parts h
  obtain ⟨h1, h2, ⟨g0, g1, d0, d1⟩, h3⟩ := (usrB_iff _ _ _ _).1 h
  have hi := fun w => iSpread_any p c w (by have := ((bits_iff p).1 h2).2; omega) (by have := ((seqB_iff c).1 h1).2.2; omega)
  rw [(sp_in ⟨h2, h1, q1⟩).1, (sp_in ⟨h2, h1, q1⟩).2] at hi
  have hs := fun v w hh => iScale_any v (p.size * c.size) (spF p c c.size) g w hh (by omega)
  rw [(scN_in q2 ((inM_iff g).2 ⟨by omega, by omega⟩)).1, (scN_in q2 ((inM_iff g).2 ⟨by omega, by omega⟩)).2, q3, show resN (p.size * c.size) (scF g (spF p c c.size)) = p.size * c.size by unfold resN; rw [q3]; rfl] at hs
  have hd := fun v w hh => iDelay_any v (p.size * c.size) (scF g (spF p c c.size)) d w hh (by omega)
  rw [show dlOK (p.size * c.size) (scF g (spF p c c.size)) d = true by unfold dlOK; rw [q3, (inK_iff d).2 ⟨by omega, by omega⟩, q5]; rfl,
    show dlN (p.size * c.size) (scF g (spF p c c.size)) d = d.toNat + p.size * c.size by unfold dlN; rw [show dlOK (p.size * c.size) (scF g (spF p c c.size)) d = true by unfold dlOK; rw [q3, (inK_iff d).2 ⟨by omega, by omega⟩, q5]; rfl]; rfl] at hd
  obtain ⟨P, hP⟩ : ∃ P, p.size * c.size = P := ⟨_, rfl⟩
  rw [hP] at hi hs hd ⊢
  obtain ⟨F, hF⟩ : ∃ F, spF p c c.size = F := ⟨_, rfl⟩
  rw [hF] at hi hs hd ⊢
  have HI := Lib.hid hi
  have HS := Lib.hid hs
  have HD := Lib.hid hd
  clear hi hs hd hP hF q1 q2 q3 q4 q5 h1 h2 h3 h
  have b0 := (Below.refl w.heap.size w).alloc (Nat.le_refl _) (.cells #[.string c, .string p, .int .i64 g, .int .i64 d] 30)
  have u0 := UsrAt.new w 30 c p g d
  go_enter Try.func76, Try.ntmps76
  go_wp2_with fail
  refine (HI.out _).mono ?_
  rintro e w1 ⟨v1, rfl, O1, n1⟩
  have b1 := below_then b0 (Nat.le_refl _) n1
  have u1 := u0.below n1 (by simp)
  clear n1 b0 u0
  obtain ⟨x0, x1, x2, x3, x4⟩ := id u1
  go_wp2_with fail
  clear x0 x1 x2 x3 x4
  refine (HS.out _ _ O1.ints).mono ?_
  rintro e w2 ⟨v2, rfl, O2, n2⟩
  have b2 := below_then b1 (Nat.le_refl _) n2
  have u2 := u1.below n2 u1.2.2.2.2
  clear n2 b1 u1 O1
  obtain ⟨x0, x1, x2, x3, x4⟩ := id u2
  have hsz := b2.size
  go_wp2_with fail
  clear x0 x1 x2 x3 x4
  refine (HD.out _ _ O2.ints).mono ?_
  rintro e w3 ⟨v3, rfl, O3, n3⟩
  have b3 := below_then b2 (Nat.le_refl _) n3
  have O4 := O3.mono hsz
  clear n3 b2 u2 O2 O3 hsz
  go_wp2
  go_ret
  exact ⟨v3, rfl, O4, b3⟩
/-- Behind its end a sum is 0. -/
theorem smF_out {ns : Nat → Nat} {fs : Nat → Nat → Int} {j : Nat} : ∀ N, mxN ns N ≤ j → smF ns fs N j = 0
  | 0, _ => rfl
  | N + 1, h => by
    simp only [mxN] at h
    rw [smF_succ, smF_out N (by omega)]
    unfold smp
    rw [if_neg (by omega)]; rfl
theorem smF_smp (ns : Nat → Nat) (fs : Nat → Nat → Int) (N j : Nat) : smp (mxN ns N) (smF ns fs N) j = smF ns fs N j := by
  unfold smp
  by_cases h : j < mxN ns N
  · rw [if_pos h]
  · rw [if_neg h, smF_out N (by omega)]
theorem smF_step (ns : Nat → Nat) (fs : Nat → Nat → Int) (N : Nat) : agF (mxN ns N) (smF ns fs N) (ns N) (fs N) = smF ns fs (N + 1) := by
  funext j
  unfold agF
  rw [smF_smp, smF_succ]
theorem smF_k {ns : Nat → Nat} {fs : Nat → Nat → Int} (j : Nat) : ∀ N : Nat, (∀ i, i < N → -1000 ≤ smp (ns i) (fs i) j ∧ smp (ns i) (fs i) j ≤ 1000) → -(1000 * (N : Int)) ≤ smF ns fs N j ∧ smF ns fs N j ≤ 1000 * (N : Int)
  | 0, _ => ⟨Int.le_refl _, Int.le_refl _⟩
  | N + 1, h => by
    have h1 := smF_k (ns := ns) (fs := fs) j N (fun i hi => h i (by omega))
    have h2 := h N (by omega)
    rw [smF_succ]
    omega
/-- The lengths and the samples of users' signals. -/
def usN (f : Nat → Usr) (i : Nat) : Nat := (f i).len
def usF (f : Nat → Usr) (i : Nat) : Nat → Int := (f i).sig
theorem us_bd {f : Nat → Usr} {i : Nat} (h : (f i).ok = true) : usN f i ≤ 3000 ∧ sigB (usN f i) (usF f i) = true ∧ ∀ j, -1000 ≤ smp (usN f i) (usF f i) j ∧ smp (usN f i) (usF f i) j ≤ 1000 := by
  obtain ⟨_, _, _, q4, q5, q6⟩ := usr_parts h
  exact ⟨q4, q5, q6⟩
theorem us_sum {f : Nat → Usr} {n : Nat} (h : okN f n = true) (h8 : n ≤ 8) : mxN (usN f) n ≤ 3000 ∧ sigB (mxN (usN f) n) (smF (usN f) (usF f) n) = true := by
  have h3 := mxN_le (ns := usN f) (M := 3000) n (fun i hi => (us_bd (okN_at n h hi)).1)
  refine ⟨h3, (sigB_iff _ _).2 ⟨allM_of fun j hj => ?_, h3⟩⟩
  have := smF_k (ns := usN f) (fs := usF f) j n (fun i hi => (us_bd (okN_at n h hi)).2.2 j)
  omega
set_option maxHeartbeats 3200000 in
theorem l4Send_any (v : Value) (n : Nat) (f : Nat → Usr) (w : World) (h : UsrsR w v n f) (hok : okN f n = true) (hn : n ≤ 20) :
    Calls Try.prog 79 #[v] w fun e w' => ∃ u, e = .returned u ∧ OF w' w.heap.size u (mxN (usN f) n) (smF (usN f) (usF f) n) ∧ Below w.heap.size w w' := by
  obtain ⟨a, cap, rfl, hc⟩ := h
  have HC := Lib.hid hc
  have HO := Lib.hid (fun k (hk : k < n) => okN_at n hok hk)
  clear hc
  have O0 := OF.empty0 w (smF (usN f) (usF f) 0)
  have b0 := (Below.refl w.heap.size w).alloc (Nat.le_refl _) (.cells #[] 3)
  go_enter Try.func79, Try.ntmps79
  go_wp2
  go_loopw [3, 4] (fun x i wr => ∃ k : Nat, k ≤ n ∧ i = .int .i64 k ∧ OF wr w.heap.size x (mxN (usN f) k) (smF (usN f) (usF f) k) ∧ Below w.heap.size w wr) (fun _ i _ => n - (intOf i).toNat)
  case atStart => exact ⟨0, by omega, rfl, O0, b0⟩
  case round =>
    obtain ⟨k, hk, rfl, rO, rb⟩ := hrel
    clear O0 b0
    by_cases hlt : k < n
    · obtain ⟨b, o, rfl, hx, hcc⟩ := HC.out k hlt
      obtain ⟨c0, c1, c2, c3⟩ := hcc.below rb hx
      have i0 : (0 : Int) ≤ (k : Int) := by omega
      have i1 : (k : Int) < (n : Int) := by omega
      have hu := HO.out k hlt
      obtain ⟨q1, q2, q3, q4, q5, q6⟩ := usr_parts hu
      obtain ⟨h1, h2, ⟨g0, g1, d0, d1⟩, h3⟩ := (usrB_iff _ _ _ _).1 hu
      have hm := mxN_le (ns := usN f) (M := 3000) k (fun i hi => (us_bd (HO.out i (by omega))).1)
      have hsb := fun j => smF_k (ns := usN f) (fs := usF f) j k (fun i hi => (us_bd (HO.out i (by omega))).2.2 j)
      have hst := smF_step (usN f) (usF f) k
      have hmx : mxN (usN f) (k + 1) = max (mxN (usN f) k) (usN f k) := rfl
      have hA := fun w => l4Spread_any (f k).data (f k).code w h2 h1
      have hB := fun v w hh => l4Scale_any v ((f k).data.size * (f k).code.size) (spF (f k).data (f k).code (f k).code.size) (f k).gain w hh (by omega) ((sigB_iff _ _).1 q2).1 ((inM_iff _).2 ⟨by omega, by omega⟩)
      have hD := fun v w hh => l4Delay_any v ((f k).data.size * (f k).code.size) (scF (f k).gain (spF (f k).data (f k).code (f k).code.size)) (f k).delay.toNat w hh (by omega) (by omega)
      rw [show (((f k).delay.toNat : Nat) : Int) = (f k).delay by omega] at hD
      have hE := fun x u w hx hu => l4Add_any x u (mxN (usN f) k) (usN f k) (smF (usN f) (usF f) k) (usF f k) w hx hu (by omega) (by have : usN f k ≤ 3000 := q4; omega) (fun j => by rw [smF_smp]; have := hsb j; omega) (fun j => by have := q6 j; unfold usN usF Usr.len Usr.sig; omega)
      rw [hst, ← hmx] at hE
      have hD' : ∀ v w, IntsO w v ((f k).data.size * (f k).code.size) (scF (f k).gain (spF (f k).data (f k).code (f k).code.size)) → Calls Try.prog 131 #[v, .int .i64 (f k).delay] w fun e w' => ∃ u, e = .returned u ∧ OF w' w.heap.size u (usN f k) (usF f k) ∧ Below w.heap.size w w' := hD
      obtain ⟨C, hC⟩ : ∃ C, (f k).code = C := ⟨_, rfl⟩
      obtain ⟨D, hDD⟩ : ∃ C, (f k).data = C := ⟨_, rfl⟩
      obtain ⟨X, hX⟩ : ∃ C, (f k).gain = C := ⟨_, rfl⟩
      obtain ⟨Y, hY⟩ : ∃ C, (f k).delay = C := ⟨_, rfl⟩
      rw [hC] at c0
      rw [hDD] at c1
      rw [hX] at c2
      rw [hY] at c3
      rw [hC, hDD] at hA hB hD'
      rw [hX] at hB hD'
      rw [hY] at hD'
      obtain ⟨P, hP⟩ : ∃ P, D.size * C.size = P := ⟨_, rfl⟩
      rw [hP] at hA hB hD'
      obtain ⟨F1, hF1⟩ : ∃ F, spF D C C.size = F := ⟨_, rfl⟩
      rw [hF1] at hA hB hD'
      obtain ⟨N1, hN1⟩ : ∃ N, mxN (usN f) k = N := ⟨_, rfl⟩
      rw [hN1] at hE rO
      obtain ⟨N2, hN2⟩ : ∃ N, usN f k = N := ⟨_, rfl⟩
      rw [hN2] at hE hD'
      obtain ⟨G1, hG1⟩ : ∃ F, smF (usN f) (usF f) k = F := ⟨_, rfl⟩
      rw [hG1] at hE rO
      obtain ⟨G2, hG2⟩ : ∃ F, usF f k = F := ⟨_, rfl⟩
      rw [hG2] at hE hD'
      have HA := Lib.hid hA
      have HB := Lib.hid hB
      have HD := Lib.hid hD'
      have HE := Lib.hid hE
      clear hA hB hD hD' hE hC hDD hX hY hP hF1 hN1 hN2 hG1 hG2 hst hmx hsb hm hu q1 q2 q3 q4 q5 q6 h1 h2 h3 g0 g1 d0 d1 hcc
      have b1 := rb.alloc rb.size (.cells #[.string C, .string D, .int .i64 X, .int .i64 Y] 30)
      have O1 := rO.alloc (.cells #[.string C, .string D, .int .i64 X, .int .i64 Y] 30)
      have u1 := UsrAt.new wr 30 C D X Y
      go_wp2_with fail
      clear c0 c1 c2 c3 rb rO
      obtain ⟨bx, hbx⟩ : ∃ b, wr.heap.size = b := ⟨_, rfl⟩
      rw [hbx] at u1 ⊢
      obtain ⟨W1, hW1⟩ : ∃ W, wr.alloc (.cells #[.string C, .string D, .int .i64 X, .int .i64 Y] 30) = W := ⟨_, rfl⟩
      rw [hW1] at b1 O1 u1 ⊢
      clear hW1 hbx
      obtain ⟨x0, x1, x2, x3, x4⟩ := id u1
      have r0 := Below.refl W1.heap.size W1
      go_region_held3 (fun wx => Below W1.heap.size W1 wx ∧ wx.cell? ⟨bx, 0, none⟩ = some (.string C) ∧ wx.cell? ⟨bx, 1, none⟩ = some (.string D) ∧ wx.cell? ⟨bx, 2, none⟩ = some (.int .i64 X) ∧ wx.cell? ⟨bx, 3, none⟩ = some (.int .i64 Y)) (first | exact ⟨k4, y4.1, y4.2.1, y4.2.2.1, y4.2.2.2.1⟩ | exact ⟨k3, y3.1, y3.2.1, y3.2.2.1, y3.2.2.2.1⟩ | exact ⟨k2, y2.1, y2.2.1, y2.2.2.1, y2.2.2.2.1⟩ | exact ⟨k1, y1.1, y1.2.1, y1.2.2.1, y1.2.2.2.1⟩ | exact ⟨r0.drew, x0, x1, x2, x3⟩) (first
        | (go_at_call 133; refine (HA.out _).mono ?_; rintro e w5 ⟨v5, rfl, O5, hB⟩; have k1 := below_then r0.drew (Nat.le_refl _) hB; have y1 := u1.below k1 x4; clear hB)
        | (go_at_call 132; refine (HB.out _ _ O5.ints).mono ?_; rintro e w6 ⟨v6, rfl, O6, hB⟩; have k2 := below_then k1 (Nat.le_refl _) hB; have y2 := u1.below k2 x4; clear hB)
        | (go_at_call 131; refine (HD.out _ _ O6.own).mono ?_; rintro e w7 ⟨v7, rfl, O7, hB⟩; have k3 := below_then k2 (Nat.le_refl _) hB; have y3 := u1.below k3 x4; clear hB)
        | (go_at_call 98; refine (HE.out _ _ _ (O1.below k3).ints O7.ints).mono ?_; rintro e w8 ⟨v8, rfl, O8, hB⟩; have k4 := below_then k3 (Nat.le_refl _) hB; have y4 := u1.below k4 x4; have q8 := Nat.le_trans b1.size k3.size; clear hB))
      all_goals
        have r8 := below_then b1 (Nat.le_refl _) k4
        have O9 := Lib.hid (O8.mono q8)
        clear x0 x1 x2 x3 x4 y1 y2 y3 y4 k1 k2 k3 k4 O5 O6 O7 O8 r0 q8
        go_wp2
        go_roundw
        case rel => exact ⟨k + 1, by omega, by go_num, O9.out, r8⟩
        case measure => simp [intOf]; omega
    · obtain rfl : n = k := by omega
      go_wp2
      go_ret
      exact ⟨_, rfl, rO, rb⟩
end Go.Proofs.Ythfcfnamaedffaa
